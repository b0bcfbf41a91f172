/-
  SameInts, slices.Equal: are two lists of numbers one?
-/
import Derived.Test.YtmnmnokkojcodabFrD
import Derived.Test.YtmnmnokkojcodabFrQ
import Derived.Test.YtmnmnokkojcodabCodMem
namespace Go.Proofs.Ytmnmnokkojcodab
open Go.ChangeShapes Go.WideShapes Go.ChangeAt Go.RowKit
set_option linter.unusedVariables false
set_option linter.unusedSimpArgs false

set_option maxHeartbeats 4000000 in
set_option maxRecDepth 100000 in
theorem sameInts_any (l m : List Int) (p p2 : Option Addr) (c d : Nat) (w : World) (hl0 : intsL.In w All l [.slice p l.length c]) (hm0 : intsL.In w All m [.slice p2 m.length d]) (hb1 : l.length ≤ 4294967296) :
    Rd Try.prog 32 #[.slice p l.length c, .slice p2 m.length d] w (.bool (bdec (l = m))) := by
  have hl : Hid _ := hl0
  have hm : Hid _ := hm0
  clear hl0 hm0
  refine fr_enter (n := 26) Try.func32 rfl rfl rfl ?_
  intro a hF
  have hW := Wd.start w
  replace hF : Fr 26 a [(0, .slice p l.length c), (1, .slice p2 m.length d)] := hF
  refine wp_seq_k ?_
  intro K1 hK1
  refine fr_region ?_
  intro ops hops
  clear hops
  refine St.go hF ?_; clear hF a
  refine sa trivial rfl rfl ?_
  refine St.nil fun a2 h2 => ?_
  refine hK1 _ _ ?_
  refine wp_seq_k ?_
  intro K3 hK3
  refine wp_seq_k ?_
  intro K4 hK4
  refine fr_region ?_
  intro ops hops
  clear hops
  refine St.go h2 ?_; clear h2 a2
  refine sm trivial rfl rfl ?_
  refine slInts trivial rfl rfl ?_
  refine sm trivial rfl rfl ?_
  refine slInts trivial rfl rfl ?_
  refine sne trivial rfl rfl rfl ?_
  refine St.nil fun a5 h5 => ?_
  refine hK4 _ _ ?_
  refine fr_cond (t := 10) h5 rfl (fun hb => ?_) (fun hb => ?_)
  ·have h9 : ¬ l.length = m.length := by have h8 := bne_iff_ne.1 hb; omega
   have hlen : ¬ l.length = m.length := h9
   clear h9
   clear hb
   refine wp_seq_k ?_
   intro K6 hK6
   refine fr_region ?_
   intro ops hops
   clear hops
   refine St.go h5 ?_; clear h5 a5
   refine sa trivial rfl rfl ?_
   refine St.nil fun a7 h7 => ?_
   refine hK6 _ _ ?_
   refine wp_ret ?_
   repeat (first | with_reducible refine of_then_ret ?_ | with_reducible refine of_block_ret ?_)
   have R : ¬ l = m := by
     intro e
     first
       | exact hlen (by rw [e])
       | exact hel (by rw [← hx.out, ← hy.out, e])
   exact ret_tmp (t := 4) h7 rfl rfl ⟨by rw [bdec_false R], hW.bel⟩
  ·have h9 : l.length = m.length := by have h8 := bne_eq_false_iff_eq.1 hb; omega
   have hlen : Hid (l.length = m.length) := h9
   clear h9
   clear hb
   refine wp_skip ?_
   refine hK3 _ _ ?_
   refine wp_seq_k ?_
   intro K8 hK8
   refine wp_seq_k ?_
   intro K9 hK9
   refine fr_region ?_
   intro ops hops
   clear hops
   refine St.go h5 ?_; clear h5 a5
   refine sa trivial rfl rfl ?_
   refine St.nil fun a10 h10 => ?_
   refine hK9 _ _ ?_
   refine wp_block ?_
   refine fr_loop (fun r a w' => ∃ q : Nat, q ≤ l.length ∧ r = l.length - q ∧ (∀ j, j < q → l.getD j 0 = m.getD j 0) ∧ Fr 26 a [(1, .slice p2 m.length d), (0, .slice p l.length c), (4, .bool false), (5, .int .i64 (q : Int))] ∧ Wd w w' []) (l.length) ⟨0, Nat.zero_le _, rfl, (fun j hj => by omega), (h10.keep (h10.keep (h10.keep (h10.keep h10.nil (t := 5) rfl) (t := 4) rfl) (t := 0) rfl) (t := 1) rfl), hW⟩ ?_
   clear h10 hW
   rintro r a11 w11 ⟨q, hq, hr, hall, hF11, hW11⟩ KL hKL
   refine wp_seq_k ?_
   intro K12 hK12
   refine wp_seq_k ?_
   intro K13 hK13
   refine fr_region ?_
   intro ops hops
   clear hops
   refine St.go hF11 ?_; clear hF11 a11
   refine sm trivial rfl rfl ?_
   refine sm trivial rfl rfl ?_
   refine slInts trivial rfl rfl ?_
   refine slt trivial rfl rfl rfl ?_
   refine St.nil fun a14 h14 => ?_
   refine hK13 _ _ ?_
   refine fr_cond (t := 14) h14 rfl (fun hb => ?_) (fun hb => ?_)
   ·have hlt : q < l.length := by have := of_decide_eq_true hb; omega
    clear hb
    have hlm : q < m.length := by have := hlen.out; omega
    obtain ⟨g1, o1, hp1, E1⟩ := ints_rg hl.out hlt
    obtain ⟨g2, o2, hp2, E2⟩ := ints_rg hm.out hlm
    obtain ⟨x, hx⟩ : ∃ x, l.getD q 0 = x := ⟨_, rfl⟩
    obtain ⟨y, hy⟩ : ∃ y, m.getD q 0 = y := ⟨_, rfl⟩
    rw [hx] at E1
    rw [hy] at E2
    replace hx : Hid _ := hx
    replace hy : Hid _ := hy
    replace E1 : Hid _ := E1
    replace E2 : Hid _ := E2
    replace hp1 : Hid _ := hp1
    replace hp2 : Hid _ := hp2
    refine wp_skip ?_
    refine hK12 _ _ ?_
    refine wp_seq_k ?_
    intro K15 hK15
    refine wp_block ?_
    refine wp_seq_k ?_
    intro K16 hK16
    have hF17 : Fr 26 a14 [(1, .slice p2 m.length d), (0, .slice p l.length c), (4, .bool false), (5, .int .i64 (q : Int))] := (h14.keep (h14.keep (h14.keep (h14.keep h14.nil (t := 5) rfl) (t := 4) rfl) (t := 0) rfl) (t := 1) rfl)
    have ho0 : a14.tmps.getD 0 undef = .slice p l.length c := h14.sl 0 _ rfl
    have ho5 : a14.tmps.getD 5 undef = .int .i64 (q : Int) := h14.sl 5 _ rfl
    have ho1 : a14.tmps.getD 1 undef = .slice p2 m.length d := h14.sl 1 _ rfl
    refine fr_draw_k 9 ([(0, fun v _ => v = .slice p l.length c), (5, fun v _ => v = .int .i64 (q : Int)), (1, fun v _ => v = .slice p2 m.length d), (17, fun v _ => v = .slice p l.length c), (18, fun v _ => v = .int .i64 (q : Int)), (19, fun v _ => v = .pointer (some ⟨g1, o1 + q, none⟩)), (20, fun v _ => v = .int .i64 x), (21, fun v _ => v = .slice p2 m.length d), (22, fun v _ => v = .int .i64 (q : Int)), (23, fun v _ => v = .pointer (some ⟨g2, o2 + q, none⟩)), (24, fun v _ => v = .int .i64 y), (25, fun v _ => v = .bool (x != y))] : PTab) (fun w' => Wd w w' [] ∧ Below w11.heap.size w11 w') (fun w w' => Below w.heap.size w w') (outs := [0, 5, 1]) (gs := []) (bs := [true, true, true, true, true, true, true, true, true]) (by kernel_rfl) hF17 rfl (by kernel_rfl) (by kernel_rfl) ?hR ?hG ⟨hW11.drewN 1, drewN_below (m := 1) (Below.refl _ _)⟩ ⟨ho0, ho5, ho1, trivial⟩ ?hA ?hend
    case hR => exact ⟨fun _ _ _ _ h => h, fun _ _ _ _ h => h, fun _ _ _ _ h => h, fun _ _ _ _ h => h, fun _ _ _ _ h => h, fun _ _ _ _ h => h, fun _ _ _ _ h => h, fun _ _ _ _ h => h, fun _ _ _ _ h => h, fun _ _ _ _ h => h, fun _ _ _ _ h => h, fun _ _ _ _ h => h, trivial⟩
    case hG => exact trivial
    case hA =>
     refine ⟨fun a w hW hk K hK => ?_, ?_⟩
     · obtain ⟨k0, -⟩ := hk
       have k0 : a.tmps.getD 0 undef = .slice p l.length c := k0
       go_simp
       exact hK _ _ (Below.refl _ _) hW rfl
     refine ⟨fun a w hW hk K hK => ?_, ?_⟩
     · obtain ⟨k0, -⟩ := hk
       have k0 : a.tmps.getD 5 undef = .int .i64 (q : Int) := k0
       go_simp
       exact hK _ _ (Below.refl _ _) hW rfl
     refine ⟨fun a w hW hk K hK => ?_, ?_⟩
     · obtain ⟨k0, k1, -⟩ := hk
       have k0 : a.tmps.getD 17 undef = .slice p l.length c := k0
       have k1 : a.tmps.getD 18 undef = .int .i64 (q : Int) := k1
       have hpq := hp1.out
       have hk0 : (0 : Int) ≤ q := by omega
       have hk1 : (q : Int) < (l.length : Int) := by omega
       go_simp
       exact hK _ _ (Below.refl _ _) hW rfl
     refine ⟨fun a w hW hk K hK => ?_, ?_⟩
     · obtain ⟨k0, -⟩ := hk
       have k0 : a.tmps.getD 19 undef = .pointer (some ⟨g1, o1 + q, none⟩) := k0
       have d0 : w.cell? ⟨g1, o1 + q, none⟩ = some (.int .i64 x) := bel_cell hW.1.bel (E1.out 0 _ rfl)
       go_simp
       exact hK _ _ (Below.refl _ _) hW rfl
     refine ⟨fun a w hW hk K hK => ?_, ?_⟩
     · obtain ⟨k0, -⟩ := hk
       have k0 : a.tmps.getD 1 undef = .slice p2 m.length d := k0
       go_simp
       exact hK _ _ (Below.refl _ _) hW rfl
     refine ⟨fun a w hW hk K hK => ?_, ?_⟩
     · obtain ⟨k0, -⟩ := hk
       have k0 : a.tmps.getD 5 undef = .int .i64 (q : Int) := k0
       go_simp
       exact hK _ _ (Below.refl _ _) hW rfl
     refine ⟨fun a w hW hk K hK => ?_, ?_⟩
     · obtain ⟨k0, k1, -⟩ := hk
       have k0 : a.tmps.getD 21 undef = .slice p2 m.length d := k0
       have k1 : a.tmps.getD 22 undef = .int .i64 (q : Int) := k1
       have hpq := hp2.out
       have hk0 : (0 : Int) ≤ q := by omega
       have hk1 : (q : Int) < (m.length : Int) := by omega
       go_simp
       exact hK _ _ (Below.refl _ _) hW rfl
     refine ⟨fun a w hW hk K hK => ?_, ?_⟩
     · obtain ⟨k0, -⟩ := hk
       have k0 : a.tmps.getD 23 undef = .pointer (some ⟨g2, o2 + q, none⟩) := k0
       have d0 : w.cell? ⟨g2, o2 + q, none⟩ = some (.int .i64 y) := bel_cell hW.1.bel (E2.out 0 _ rfl)
       go_simp
       exact hK _ _ (Below.refl _ _) hW rfl
     refine ⟨fun a w hW hk K hK => ?_, ?_⟩
     · obtain ⟨k0, k1, -⟩ := hk
       have k0 : a.tmps.getD 20 undef = .int .i64 x := k0
       have k1 : a.tmps.getD 24 undef = .int .i64 y := k1
       go_simp
       exact hK _ _ (Below.refl _ _) hW rfl
     trivial
    case hend =>
     intro ops a18 w18 hWD hE hFD
     have hd25 : a18.tmps.getD 25 undef = .bool (x != y) := hE 25 rfl
     have hF18 : Fr 26 a18 [(25, .bool (x != y)), (1, .slice p2 m.length d), (0, .slice p l.length c), (4, .bool false), (5, .int .i64 (q : Int))] := (hFD.cons hd25)
     clear hd25
     have hW18 : Wd w w18 [] := hWD.1
     clear hFD hWD hE hF17 h14
     clear hW11
     refine wpList_nil ?_
     refine hK16 _ _ ?_
     refine fr_cond (t := 25) hF18 rfl (fun hb => ?_) (fun hb => ?_)
     ·have h9 : ¬ x = y := bne_iff_ne.1 hb
      have hel : ¬ x = y := h9
      clear h9
      clear hb
      refine wp_seq_k ?_
      intro K19 hK19
      refine fr_region ?_
      intro ops hops
      clear hops
      refine St.go hF18 ?_; clear hF18 a18
      refine sa trivial rfl rfl ?_
      refine St.nil fun a20 h20 => ?_
      refine hK19 _ _ ?_
      refine wp_ret ?_
      repeat (first | with_reducible refine of_then_ret ?_ | with_reducible refine of_block_ret ?_)
      have R : ¬ l = m := by
        intro e
        first
          | exact hlen (by rw [e])
          | exact hel (by rw [← hx.out, ← hy.out, e])
      exact ret_tmp (t := 4) h20 rfl rfl ⟨by rw [bdec_false R], hW18.bel⟩
     ·have h9 : x = y := bne_eq_false_iff_eq.1 hb
      have hel : Hid (x = y) := h9
      clear h9
      clear hb
      refine wp_skip ?_
      refine hK15 _ _ ?_
      refine fr_region ?_
      intro ops hops
      clear hops
      refine St.go hF18 ?_; clear hF18 a18
      refine sm trivial rfl rfl ?_
      refine sad (by omega) trivial rfl rfl rfl ?_
      refine sa trivial rfl rfl ?_
      refine St.nil fun a21 h21 => ?_
      refine hKL _ _ (l.length - (q + 1)) (by omega) ⟨q + 1, by omega, rfl, ?_, (h21.keep (h21.keep (h21.keep (h21.keep h21.nil (t := 5) rfl) (t := 4) rfl) (t := 0) rfl) (t := 1) rfl), hW18⟩
      ·intro j hj
       by_cases e : j = q
       · subst e; rw [hx.out, hy.out]; exact hel.out
       · exact hall j (by omega)
   ·have hge : q = l.length := by have := of_decide_eq_false hb; omega
    clear hb
    refine wp_exit ?_
    refine hK8 _ _ ?_
    refine wp_seq_k ?_
    intro K22 hK22
    refine fr_region ?_
    intro ops hops
    clear hops
    refine St.go h14 ?_; clear h14 a14
    refine sa trivial rfl rfl ?_
    refine St.nil fun a23 h23 => ?_
    refine hK22 _ _ ?_
    refine wp_ret ?_
    repeat (first | with_reducible refine of_then_ret ?_ | with_reducible refine of_block_ret ?_)
    have R : l = m := by
      refine List.ext_getElem hlen.out fun i h1 h2 => ?_
      have := hall i (by omega)
      simpa [List.getD, h1, h2] using this
    exact ret_tmp (t := 4) h23 rfl rfl ⟨by rw [bdec_true R], hW11.bel⟩

set_option maxHeartbeats 4000000 in
set_option maxRecDepth 100000 in
theorem equal_any (l m : List Int) (p p2 : Option Addr) (c d : Nat) (w : World) (hl0 : intsL.In w All l [.slice p l.length c]) (hm0 : intsL.In w All m [.slice p2 m.length d]) (hb1 : l.length ≤ 4294967296) :
    Rd Try.prog 113 #[.slice p l.length c, .slice p2 m.length d] w (.bool (bdec (l = m))) := by
  have hl : Hid _ := hl0
  have hm : Hid _ := hm0
  clear hl0 hm0
  refine fr_enter (n := 26) Try.func113 rfl rfl rfl ?_
  intro a hF
  have hW := Wd.start w
  replace hF : Fr 26 a [(0, .slice p l.length c), (1, .slice p2 m.length d)] := hF
  refine wp_seq_k ?_
  intro K1 hK1
  refine fr_region ?_
  intro ops hops
  clear hops
  refine St.go hF ?_; clear hF a
  refine sa trivial rfl rfl ?_
  refine St.nil fun a2 h2 => ?_
  refine hK1 _ _ ?_
  refine wp_seq_k ?_
  intro K3 hK3
  refine wp_seq_k ?_
  intro K4 hK4
  refine fr_region ?_
  intro ops hops
  clear hops
  refine St.go h2 ?_; clear h2 a2
  refine sm trivial rfl rfl ?_
  refine slInts trivial rfl rfl ?_
  refine sm trivial rfl rfl ?_
  refine slInts trivial rfl rfl ?_
  refine sne trivial rfl rfl rfl ?_
  refine St.nil fun a5 h5 => ?_
  refine hK4 _ _ ?_
  refine fr_cond (t := 10) h5 rfl (fun hb => ?_) (fun hb => ?_)
  ·have h9 : ¬ l.length = m.length := by have h8 := bne_iff_ne.1 hb; omega
   have hlen : ¬ l.length = m.length := h9
   clear h9
   clear hb
   refine wp_seq_k ?_
   intro K6 hK6
   refine fr_region ?_
   intro ops hops
   clear hops
   refine St.go h5 ?_; clear h5 a5
   refine sa trivial rfl rfl ?_
   refine St.nil fun a7 h7 => ?_
   refine hK6 _ _ ?_
   refine wp_ret ?_
   repeat (first | with_reducible refine of_then_ret ?_ | with_reducible refine of_block_ret ?_)
   have R : ¬ l = m := by
     intro e
     first
       | exact hlen (by rw [e])
       | exact hel (by rw [← hx.out, ← hy.out, e])
   exact ret_tmp (t := 4) h7 rfl rfl ⟨by rw [bdec_false R], hW.bel⟩
  ·have h9 : l.length = m.length := by have h8 := bne_eq_false_iff_eq.1 hb; omega
   have hlen : Hid (l.length = m.length) := h9
   clear h9
   clear hb
   refine wp_skip ?_
   refine hK3 _ _ ?_
   refine wp_seq_k ?_
   intro K8 hK8
   refine wp_seq_k ?_
   intro K9 hK9
   refine fr_region ?_
   intro ops hops
   clear hops
   refine St.go h5 ?_; clear h5 a5
   refine sm trivial rfl rfl ?_
   refine slInts trivial rfl rfl ?_
   refine sm trivial rfl rfl ?_
   refine St.nil fun a10 h10 => ?_
   refine hK9 _ _ ?_
   refine wp_block ?_
   refine fr_loop (fun r a w' => ∃ q : Nat, q ≤ l.length ∧ r = l.length - q ∧ (∀ j, j < q → l.getD j 0 = m.getD j 0) ∧ Fr 26 a [(1, .slice p2 m.length d), (0, .slice p l.length c), (4, .bool false), (12, .int .i64 (l.length : Int)), (13, .int .i64 (q : Int))] ∧ Wd w w' []) (l.length) ⟨0, Nat.zero_le _, rfl, (fun j hj => by omega), (h10.keep (h10.keep (h10.keep (h10.keep (h10.keep h10.nil (t := 13) rfl) (t := 12) rfl) (t := 4) rfl) (t := 0) rfl) (t := 1) rfl), hW⟩ ?_
   clear h10 hW
   rintro r a11 w11 ⟨q, hq, hr, hall, hF11, hW11⟩ KL hKL
   refine wp_seq_k ?_
   intro K12 hK12
   refine fr_region ?_
   intro ops hops
   clear hops
   refine St.go hF11 ?_; clear hF11 a11
   refine slt trivial rfl rfl rfl ?_
   refine St.nil fun a13 h13 => ?_
   refine hK12 _ _ ?_
   refine wp_seq_k ?_
   intro K14 hK14
   refine fr_cond (t := 14) h13 rfl (fun hb => ?_) (fun hb => ?_)
   ·have hlt : q < l.length := by have := of_decide_eq_true hb; omega
    clear hb
    have hlm : q < m.length := by have := hlen.out; omega
    obtain ⟨g1, o1, hp1, E1⟩ := ints_rg hl.out hlt
    obtain ⟨g2, o2, hp2, E2⟩ := ints_rg hm.out hlm
    obtain ⟨x, hx⟩ : ∃ x, l.getD q 0 = x := ⟨_, rfl⟩
    obtain ⟨y, hy⟩ : ∃ y, m.getD q 0 = y := ⟨_, rfl⟩
    rw [hx] at E1
    rw [hy] at E2
    replace hx : Hid _ := hx
    replace hy : Hid _ := hy
    replace E1 : Hid _ := E1
    replace E2 : Hid _ := E2
    replace hp1 : Hid _ := hp1
    replace hp2 : Hid _ := hp2
    refine wp_skip ?_
    refine hK14 _ _ ?_
    refine wp_seq_k ?_
    intro K15 hK15
    refine wp_block ?_
    refine wp_seq_k ?_
    intro K16 hK16
    refine fr_region ?_
    intro ops hops
    clear hops
    refine St.go h13 ?_; clear h13 a13
    refine sm trivial rfl rfl ?_
    refine sa trivial rfl rfl ?_
    refine St.nil fun a17 h17 => ?_
    refine hK16 _ _ ?_
    refine wp_seq_k ?_
    intro K18 hK18
    have hF19 : Fr 26 a17 [(1, .slice p2 m.length d), (0, .slice p l.length c), (4, .bool false), (12, .int .i64 (l.length : Int)), (13, .int .i64 (q : Int)), (5, .int .i64 (q : Int))] := (h17.keep (h17.keep (h17.keep (h17.keep (h17.keep (h17.keep h17.nil (t := 5) rfl) (t := 13) rfl) (t := 12) rfl) (t := 4) rfl) (t := 0) rfl) (t := 1) rfl)
    have ho0 : a17.tmps.getD 0 undef = .slice p l.length c := h17.sl 0 _ rfl
    have ho5 : a17.tmps.getD 5 undef = .int .i64 (q : Int) := h17.sl 5 _ rfl
    have ho1 : a17.tmps.getD 1 undef = .slice p2 m.length d := h17.sl 1 _ rfl
    refine fr_draw_k 9 ([(0, fun v _ => v = .slice p l.length c), (5, fun v _ => v = .int .i64 (q : Int)), (1, fun v _ => v = .slice p2 m.length d), (16, fun v _ => v = .slice p l.length c), (17, fun v _ => v = .int .i64 (q : Int)), (18, fun v _ => v = .pointer (some ⟨g1, o1 + q, none⟩)), (19, fun v _ => v = .int .i64 x), (20, fun v _ => v = .slice p2 m.length d), (21, fun v _ => v = .int .i64 (q : Int)), (22, fun v _ => v = .pointer (some ⟨g2, o2 + q, none⟩)), (23, fun v _ => v = .int .i64 y), (24, fun v _ => v = .bool (x != y))] : PTab) (fun w' => Wd w w' [] ∧ Below w11.heap.size w11 w') (fun w w' => Below w.heap.size w w') (outs := [0, 5, 1]) (gs := []) (bs := [true, true, true, true, true, true, true, true, true]) (by kernel_rfl) hF19 rfl (by kernel_rfl) (by kernel_rfl) ?hR ?hG ⟨hW11.drewN 1, drewN_below (m := 1) (Below.refl _ _)⟩ ⟨ho0, ho5, ho1, trivial⟩ ?hA ?hend
    case hR => exact ⟨fun _ _ _ _ h => h, fun _ _ _ _ h => h, fun _ _ _ _ h => h, fun _ _ _ _ h => h, fun _ _ _ _ h => h, fun _ _ _ _ h => h, fun _ _ _ _ h => h, fun _ _ _ _ h => h, fun _ _ _ _ h => h, fun _ _ _ _ h => h, fun _ _ _ _ h => h, fun _ _ _ _ h => h, trivial⟩
    case hG => exact trivial
    case hA =>
     refine ⟨fun a w hW hk K hK => ?_, ?_⟩
     · obtain ⟨k0, -⟩ := hk
       have k0 : a.tmps.getD 0 undef = .slice p l.length c := k0
       go_simp
       exact hK _ _ (Below.refl _ _) hW rfl
     refine ⟨fun a w hW hk K hK => ?_, ?_⟩
     · obtain ⟨k0, -⟩ := hk
       have k0 : a.tmps.getD 5 undef = .int .i64 (q : Int) := k0
       go_simp
       exact hK _ _ (Below.refl _ _) hW rfl
     refine ⟨fun a w hW hk K hK => ?_, ?_⟩
     · obtain ⟨k0, k1, -⟩ := hk
       have k0 : a.tmps.getD 16 undef = .slice p l.length c := k0
       have k1 : a.tmps.getD 17 undef = .int .i64 (q : Int) := k1
       have hpq := hp1.out
       have hk0 : (0 : Int) ≤ q := by omega
       have hk1 : (q : Int) < (l.length : Int) := by omega
       go_simp
       exact hK _ _ (Below.refl _ _) hW rfl
     refine ⟨fun a w hW hk K hK => ?_, ?_⟩
     · obtain ⟨k0, -⟩ := hk
       have k0 : a.tmps.getD 18 undef = .pointer (some ⟨g1, o1 + q, none⟩) := k0
       have d0 : w.cell? ⟨g1, o1 + q, none⟩ = some (.int .i64 x) := bel_cell hW.1.bel (E1.out 0 _ rfl)
       go_simp
       exact hK _ _ (Below.refl _ _) hW rfl
     refine ⟨fun a w hW hk K hK => ?_, ?_⟩
     · obtain ⟨k0, -⟩ := hk
       have k0 : a.tmps.getD 1 undef = .slice p2 m.length d := k0
       go_simp
       exact hK _ _ (Below.refl _ _) hW rfl
     refine ⟨fun a w hW hk K hK => ?_, ?_⟩
     · obtain ⟨k0, -⟩ := hk
       have k0 : a.tmps.getD 5 undef = .int .i64 (q : Int) := k0
       go_simp
       exact hK _ _ (Below.refl _ _) hW rfl
     refine ⟨fun a w hW hk K hK => ?_, ?_⟩
     · obtain ⟨k0, k1, -⟩ := hk
       have k0 : a.tmps.getD 20 undef = .slice p2 m.length d := k0
       have k1 : a.tmps.getD 21 undef = .int .i64 (q : Int) := k1
       have hpq := hp2.out
       have hk0 : (0 : Int) ≤ q := by omega
       have hk1 : (q : Int) < (m.length : Int) := by omega
       go_simp
       exact hK _ _ (Below.refl _ _) hW rfl
     refine ⟨fun a w hW hk K hK => ?_, ?_⟩
     · obtain ⟨k0, -⟩ := hk
       have k0 : a.tmps.getD 22 undef = .pointer (some ⟨g2, o2 + q, none⟩) := k0
       have d0 : w.cell? ⟨g2, o2 + q, none⟩ = some (.int .i64 y) := bel_cell hW.1.bel (E2.out 0 _ rfl)
       go_simp
       exact hK _ _ (Below.refl _ _) hW rfl
     refine ⟨fun a w hW hk K hK => ?_, ?_⟩
     · obtain ⟨k0, k1, -⟩ := hk
       have k0 : a.tmps.getD 19 undef = .int .i64 x := k0
       have k1 : a.tmps.getD 23 undef = .int .i64 y := k1
       go_simp
       exact hK _ _ (Below.refl _ _) hW rfl
     trivial
    case hend =>
     intro ops a20 w20 hWD hE hFD
     have hd24 : a20.tmps.getD 24 undef = .bool (x != y) := hE 24 rfl
     have hF20 : Fr 26 a20 [(24, .bool (x != y)), (1, .slice p2 m.length d), (0, .slice p l.length c), (4, .bool false), (12, .int .i64 (l.length : Int)), (13, .int .i64 (q : Int)), (5, .int .i64 (q : Int))] := (hFD.cons hd24)
     clear hd24
     have hW20 : Wd w w20 [] := hWD.1
     clear hFD hWD hE hF19 h17
     clear hW11
     refine wpList_nil ?_
     refine hK18 _ _ ?_
     refine fr_cond (t := 24) hF20 rfl (fun hb => ?_) (fun hb => ?_)
     ·have h9 : ¬ x = y := bne_iff_ne.1 hb
      have hel : ¬ x = y := h9
      clear h9
      clear hb
      refine wp_seq_k ?_
      intro K21 hK21
      refine fr_region ?_
      intro ops hops
      clear hops
      refine St.go hF20 ?_; clear hF20 a20
      refine sa trivial rfl rfl ?_
      refine St.nil fun a22 h22 => ?_
      refine hK21 _ _ ?_
      refine wp_ret ?_
      repeat (first | with_reducible refine of_then_ret ?_ | with_reducible refine of_block_ret ?_)
      have R : ¬ l = m := by
        intro e
        first
          | exact hlen (by rw [e])
          | exact hel (by rw [← hx.out, ← hy.out, e])
      exact ret_tmp (t := 4) h22 rfl rfl ⟨by rw [bdec_false R], hW20.bel⟩
     ·have h9 : x = y := bne_eq_false_iff_eq.1 hb
      have hel : Hid (x = y) := h9
      clear h9
      clear hb
      refine wp_skip ?_
      refine hK15 _ _ ?_
      refine fr_region ?_
      intro ops hops
      clear hops
      refine St.go hF20 ?_; clear hF20 a20
      refine sad (by omega) trivial rfl rfl rfl ?_
      refine sm trivial rfl rfl ?_
      refine St.nil fun a23 h23 => ?_
      refine hKL _ _ (l.length - (q + 1)) (by omega) ⟨q + 1, by omega, rfl, ?_, (h23.keep (h23.keep (h23.keep (h23.keep (h23.keep h23.nil (t := 13) rfl) (t := 12) rfl) (t := 4) rfl) (t := 0) rfl) (t := 1) rfl), hW20⟩
      ·intro j hj
       by_cases e : j = q
       · subst e; rw [hx.out, hy.out]; exact hel.out
       · exact hall j (by omega)
   ·have hge : q = l.length := by have := of_decide_eq_false hb; omega
    clear hb
    refine wp_exit ?_
    refine hK8 _ _ ?_
    refine wp_seq_k ?_
    intro K24 hK24
    refine fr_region ?_
    intro ops hops
    clear hops
    refine St.go h13 ?_; clear h13 a13
    refine sa trivial rfl rfl ?_
    refine St.nil fun a25 h25 => ?_
    refine hK24 _ _ ?_
    refine wp_ret ?_
    repeat (first | with_reducible refine of_then_ret ?_ | with_reducible refine of_block_ret ?_)
    have R : l = m := by
      refine List.ext_getElem hlen.out fun i h1 h2 => ?_
      have := hall i (by omega)
      simpa [List.getD, h1, h2] using this
    exact ret_tmp (t := 4) h25 rfl rfl ⟨by rw [bdec_true R], hW11.bel⟩
end Go.Proofs.Ytmnmnokkojcodab
