/-
  The last test of TypesBack: a region that draws its order; it says yes.
-/
import Derived.Test.YtpcnlplcpoohgabDoorCalm
import Derived.Test.YtpcnlplcpoohgabDoorTypR8
namespace Go.Proofs.YtpcnlplcpoohgabDoor
open Go.ChangeShapes Go.WideShapes Go.ChangeAt Go.RowKit
set_option linter.unusedVariables false


def r24E (H3 : Nat) (H16 : Nat) (H18 : Nat) (H20 : Nat) (H22 : Nat) (k : Int) (r : Int) (a0 : Option Addr) (len : Nat) (c : Nat) (ku : Int) (ru : Int) (a16 : Option Addr) (lu : Nat) (c16 : Nat) (a18 : Option Addr) (c18 : Nat) (kw : Int) (rv : Int) (a20 : Option Addr) (lw : Nat) (c20 : Nat) (a22 : Option Addr) (c22 : Nat) (cv : Int) (t : Tmp) (v : Value) (w : World) : Prop :=
  v = (([(3, .pointer (some ⟨H3, 0, none⟩)), (7, .int .i64 16), (16, .pointer (some ⟨H16, 0, none⟩)), (18, .pointer (some ⟨H18, 0, none⟩)), (19, .bool true), (20, .pointer (some ⟨H20, 0, none⟩)), (21, .bool true), (22, .pointer (some ⟨H22, 0, none⟩)), (23, .bool true), (123, .bool true), (124, .bool true), (125, .agg #[.int .i64 k, .int .i64 r, .slice a0 len c]), (126, .agg #[.int .i64 k, .int .i64 r, .slice a18 len c18]), (127, .bool true), (128, .bool true), (129, .bool true), (130, .bool true), (131, .bool true), (132, .bool true), (133, .bool true), (134, .bool true), (135, .bool true), (136, .agg #[.int .i64 kw, .int .i64 rv, .slice a20 lw c20]), (137, .agg #[.int .i64 kw, .int .i64 rv, .slice a22 lw c22]), (138, .bool true), (139, .bool true), (140, .bool true), (141, .agg #[.int .i64 ku, .int .i64 ru, .slice a16 lu c16]), (142, .int .i64 16), (143, .int .i64 cv), (144, .agg #[.int .i64 k, .int .i64 r, .slice a0 len c]), (145, .int .i64 16), (146, .int .i64 cv), (147, .bool true), (148, .bool true), (6, .bool true)] : List (Tmp × Value)).lookup t).getD undef

set_option maxRecDepth 100000 in
set_option maxHeartbeats 8000000 in
theorem r24_true {w6 : World} {H3 : Nat} {H16 : Nat} {H18 : Nat} {H20 : Nat} {H22 : Nat} {k : Int} {r : Int} {a0 : Option Addr} {len : Nat} {c : Nat} {ku : Int} {ru : Int} {a16 : Option Addr} {lu : Nat} {c16 : Nat} {a18 : Option Addr} {c18 : Nat} {kw : Int} {rv : Int} {a20 : Option Addr} {lw : Nat} {c20 : Nat} {a22 : Option Addr} {c22 : Nat} {cv : Int}
    (B3 : w6.heap[H3]? = some (.cells #[.int .i64 k, .int .i64 r, .slice a0 len c] 24 (0, 0)))
    (B16 : w6.heap[H16]? = some (.cells #[.int .i64 ku, .int .i64 ru, .slice a16 lu c16] 24 (0, 0)))
    (B18 : w6.heap[H18]? = some (.cells #[.int .i64 k, .int .i64 r, .slice a18 len c18] 24 (0, 0)))
    (B20 : w6.heap[H20]? = some (.cells #[.int .i64 kw, .int .i64 rv, .slice a20 lw c20] 24 (0, 0)))
    (B22 : w6.heap[H22]? = some (.cells #[.int .i64 kw, .int .i64 rv, .slice a22 lw c22] 24 (0, 0)))
    (C127 : Hid (∀ wx, Below w6.heap.size w6 wx → Calls Tryd.prog 12 #[.agg #[.int .i64 k, .int .i64 r, .slice a0 len c], .agg #[.int .i64 k, .int .i64 r, .slice a18 len c18]] wx fun e w' => e = .returned (.bool true) ∧ Below wx.heap.size wx w'))
    (C138 : Hid (∀ wx, Below w6.heap.size w6 wx → Calls Tryd.prog 12 #[.agg #[.int .i64 kw, .int .i64 rv, .slice a20 lw c20], .agg #[.int .i64 kw, .int .i64 rv, .slice a22 lw c22]] wx fun e w' => e = .returned (.bool true) ∧ Below wx.heap.size wx w'))
    (C143 : Hid (∀ wx, Below w6.heap.size w6 wx → Calls Tryd.prog 10 #[.agg #[.int .i64 ku, .int .i64 ru, .slice a16 lu c16], .int .i64 16] wx fun e w' => e = .returned (.int .i64 cv) ∧ Below wx.heap.size wx w'))
    (C146 : Hid (∀ wx, Below w6.heap.size w6 wx → Calls Tryd.prog 10 #[.agg #[.int .i64 k, .int .i64 r, .slice a0 len c], .int .i64 16] wx fun e w' => e = .returned (.int .i64 cv) ∧ Below wx.heap.size wx w'))
    (a : Act) (n : Nat) (hn : a.tmps.size = n) (hn' : 149 ≤ n) (h3 : a.tmps.getD 3 undef = .pointer (some ⟨H3, 0, none⟩)) (h7 : a.tmps.getD 7 undef = .int .i64 16) (h16 : a.tmps.getD 16 undef = .pointer (some ⟨H16, 0, none⟩)) (h18 : a.tmps.getD 18 undef = .pointer (some ⟨H18, 0, none⟩)) (h19 : a.tmps.getD 19 undef = .bool true) (h20 : a.tmps.getD 20 undef = .pointer (some ⟨H20, 0, none⟩)) (h21 : a.tmps.getD 21 undef = .bool true) (h22 : a.tmps.getD 22 undef = .pointer (some ⟨H22, 0, none⟩)) (h23 : a.tmps.getD 23 undef = .bool true) :
    Code.wp Tryd.prog ((Tryd.f4.body.bind (regionOf 24)).getD .skip) (fun e a' w' => e = .normal ∧ ∃ vs, a' = puts a vs (List.range' 123 26 ++ [6]) ∧ vs 6 = .bool true ∧ Below w6.heap.size w6 w') a w6 := by
  conv => arg 2; whnf

  refine wp_region_calm (r24E H3 H16 H18 H20 H22 k r a0 len c ku ru a16 lu c16 a18 c18 kw rv a20 lw c20 a22 c22 cv) (fun w => Below w6.heap.size w6 w) (fun w w' => Below w.heap.size w w') (outs := [3, 7, 16, 18, 19, 20, 21, 22, 23]) (gs := [(1, some true), (6, some true), (9, some true), (12, some true), (17, some true)]) (bs := [true, true, true, true, true, true, true, true, true, true, true, true, true, true, true, true, true, true, true, true, true, true, true, true, true, true, true]) (by kernel_rfl) (n := 149) hn hn' (by kernel_rfl) ?hR ?hG (drewN_below (m := 1) (Below.refl _ _)) ⟨h3, h7, h16, h18, h19, h20, h21, h22, h23, trivial⟩ ?hA ?hend
  case hR => exact fun t v w w' _ h => h
  case hG => exact ⟨fun t ht v w _ h => by cases ht; exact h, fun t ht v w _ h => by cases ht; exact h, fun t ht v w _ h => by cases ht; exact h, fun t ht v w _ h => by cases ht; exact h, fun t ht v w _ h => by cases ht; exact h, trivial⟩
  case hend => exact fun vs w' hW hk => ⟨rfl, vs, rfl, hk 6 (by kernel_rfl), hW⟩
  case hA =>
    refine ⟨fun a w hW hk K hK => ?_, ?_⟩
    · obtain ⟨k0, -⟩ := hk
      have k0 : a.tmps.getD 19 undef = .bool true := k0
      go_simp
      exact hK _ _ (Below.refl _ _) hW rfl
    refine ⟨fun a w hW hk K hK => ?_, ?_⟩
    · obtain ⟨k0, -⟩ := hk
      have k0 : a.tmps.getD 123 undef = .bool true := k0
      go_simp
      exact hK _ _ (Below.refl _ _) hW rfl
    refine ⟨fun a w hW hk K hK => ?_, ?_⟩
    · obtain ⟨k0, -⟩ := hk
      have k0 : a.tmps.getD 3 undef = .pointer (some ⟨H3, 0, none⟩) := k0
      have c0 := cellOf (box_cells B3 hW) 0 _ rfl
      have c1 := cellOf (box_cells B3 hW) 1 _ rfl
      have c2 := cellOf (box_cells B3 hW) 2 _ rfl
      go_simp
      exact hK _ _ (Below.refl _ _) hW rfl
    refine ⟨fun a w hW hk K hK => ?_, ?_⟩
    · obtain ⟨k0, -⟩ := hk
      have k0 : a.tmps.getD 18 undef = .pointer (some ⟨H18, 0, none⟩) := k0
      have c0 := cellOf (box_cells B18 hW) 0 _ rfl
      have c1 := cellOf (box_cells B18 hW) 1 _ rfl
      have c2 := cellOf (box_cells B18 hW) 2 _ rfl
      go_simp
      exact hK _ _ (Below.refl _ _) hW rfl
    refine ⟨fun a w hW hk K hK => ?_, ?_⟩
    · obtain ⟨k0, k1, -⟩ := hk
      have k0 : a.tmps.getD 125 undef = .agg #[.int .i64 k, .int .i64 r, .slice a0 len c] := k0
      have k1 : a.tmps.getD 126 undef = .agg #[.int .i64 k, .int .i64 r, .slice a18 len c18] := k1
      go_simp
      refine (C127.out w hW).mono ?_; rintro r7 w7 ⟨rfl, hb⟩
      go_simp
      exact hK _ _ hb (hW.trans (hb.mono hW.size)) rfl
    refine ⟨fun a w hW hk K hK => ?_, ?_⟩
    · obtain ⟨k0, k1, -⟩ := hk
      have k0 : a.tmps.getD 124 undef = .bool true := k0
      have k1 : a.tmps.getD 127 undef = .bool true := k1
      go_simp
      exact hK _ _ (Below.refl _ _) hW rfl
    refine ⟨fun a w hW hk K hK => ?_, ?_⟩
    · obtain ⟨k0, -⟩ := hk
      have k0 : a.tmps.getD 128 undef = .bool true := k0
      go_simp
      exact hK _ _ (Below.refl _ _) hW rfl
    refine ⟨fun a w hW hk K hK => ?_, ?_⟩
    · obtain ⟨k0, -⟩ := hk
      have k0 : a.tmps.getD 21 undef = .bool true := k0
      go_simp
      exact hK _ _ (Below.refl _ _) hW rfl
    refine ⟨fun a w hW hk K hK => ?_, ?_⟩
    · obtain ⟨k0, k1, -⟩ := hk
      have k0 : a.tmps.getD 129 undef = .bool true := k0
      have k1 : a.tmps.getD 130 undef = .bool true := k1
      go_simp
      exact hK _ _ (Below.refl _ _) hW rfl
    refine ⟨fun a w hW hk K hK => ?_, ?_⟩
    · obtain ⟨k0, -⟩ := hk
      have k0 : a.tmps.getD 131 undef = .bool true := k0
      go_simp
      exact hK _ _ (Below.refl _ _) hW rfl
    refine ⟨fun a w hW hk K hK => ?_, ?_⟩
    · obtain ⟨k0, -⟩ := hk
      have k0 : a.tmps.getD 23 undef = .bool true := k0
      go_simp
      exact hK _ _ (Below.refl _ _) hW rfl
    refine ⟨fun a w hW hk K hK => ?_, ?_⟩
    · obtain ⟨k0, k1, -⟩ := hk
      have k0 : a.tmps.getD 132 undef = .bool true := k0
      have k1 : a.tmps.getD 133 undef = .bool true := k1
      go_simp
      exact hK _ _ (Below.refl _ _) hW rfl
    refine ⟨fun a w hW hk K hK => ?_, ?_⟩
    · obtain ⟨k0, -⟩ := hk
      have k0 : a.tmps.getD 134 undef = .bool true := k0
      go_simp
      exact hK _ _ (Below.refl _ _) hW rfl
    refine ⟨fun a w hW hk K hK => ?_, ?_⟩
    · obtain ⟨k0, -⟩ := hk
      have k0 : a.tmps.getD 20 undef = .pointer (some ⟨H20, 0, none⟩) := k0
      have c0 := cellOf (box_cells B20 hW) 0 _ rfl
      have c1 := cellOf (box_cells B20 hW) 1 _ rfl
      have c2 := cellOf (box_cells B20 hW) 2 _ rfl
      go_simp
      exact hK _ _ (Below.refl _ _) hW rfl
    refine ⟨fun a w hW hk K hK => ?_, ?_⟩
    · obtain ⟨k0, -⟩ := hk
      have k0 : a.tmps.getD 22 undef = .pointer (some ⟨H22, 0, none⟩) := k0
      have c0 := cellOf (box_cells B22 hW) 0 _ rfl
      have c1 := cellOf (box_cells B22 hW) 1 _ rfl
      have c2 := cellOf (box_cells B22 hW) 2 _ rfl
      go_simp
      exact hK _ _ (Below.refl _ _) hW rfl
    refine ⟨fun a w hW hk K hK => ?_, ?_⟩
    · obtain ⟨k0, k1, -⟩ := hk
      have k0 : a.tmps.getD 136 undef = .agg #[.int .i64 kw, .int .i64 rv, .slice a20 lw c20] := k0
      have k1 : a.tmps.getD 137 undef = .agg #[.int .i64 kw, .int .i64 rv, .slice a22 lw c22] := k1
      go_simp
      refine (C138.out w hW).mono ?_; rintro r7 w7 ⟨rfl, hb⟩
      go_simp
      exact hK _ _ hb (hW.trans (hb.mono hW.size)) rfl
    refine ⟨fun a w hW hk K hK => ?_, ?_⟩
    · obtain ⟨k0, k1, -⟩ := hk
      have k0 : a.tmps.getD 135 undef = .bool true := k0
      have k1 : a.tmps.getD 138 undef = .bool true := k1
      go_simp
      exact hK _ _ (Below.refl _ _) hW rfl
    refine ⟨fun a w hW hk K hK => ?_, ?_⟩
    · obtain ⟨k0, -⟩ := hk
      have k0 : a.tmps.getD 139 undef = .bool true := k0
      go_simp
      exact hK _ _ (Below.refl _ _) hW rfl
    refine ⟨fun a w hW hk K hK => ?_, ?_⟩
    · obtain ⟨k0, -⟩ := hk
      have k0 : a.tmps.getD 16 undef = .pointer (some ⟨H16, 0, none⟩) := k0
      have c0 := cellOf (box_cells B16 hW) 0 _ rfl
      have c1 := cellOf (box_cells B16 hW) 1 _ rfl
      have c2 := cellOf (box_cells B16 hW) 2 _ rfl
      go_simp
      exact hK _ _ (Below.refl _ _) hW rfl
    refine ⟨fun a w hW hk K hK => ?_, ?_⟩
    · obtain ⟨k0, -⟩ := hk
      have k0 : a.tmps.getD 7 undef = .int .i64 16 := k0
      go_simp
      exact hK _ _ (Below.refl _ _) hW rfl
    refine ⟨fun a w hW hk K hK => ?_, ?_⟩
    · obtain ⟨k0, k1, -⟩ := hk
      have k0 : a.tmps.getD 141 undef = .agg #[.int .i64 ku, .int .i64 ru, .slice a16 lu c16] := k0
      have k1 : a.tmps.getD 142 undef = .int .i64 16 := k1
      go_simp
      refine (C143.out w hW).mono ?_; rintro r7 w7 ⟨rfl, hb⟩
      go_simp
      exact hK _ _ hb (hW.trans (hb.mono hW.size)) rfl
    refine ⟨fun a w hW hk K hK => ?_, ?_⟩
    · obtain ⟨k0, -⟩ := hk
      have k0 : a.tmps.getD 3 undef = .pointer (some ⟨H3, 0, none⟩) := k0
      have c0 := cellOf (box_cells B3 hW) 0 _ rfl
      have c1 := cellOf (box_cells B3 hW) 1 _ rfl
      have c2 := cellOf (box_cells B3 hW) 2 _ rfl
      go_simp
      exact hK _ _ (Below.refl _ _) hW rfl
    refine ⟨fun a w hW hk K hK => ?_, ?_⟩
    · obtain ⟨k0, -⟩ := hk
      have k0 : a.tmps.getD 7 undef = .int .i64 16 := k0
      go_simp
      exact hK _ _ (Below.refl _ _) hW rfl
    refine ⟨fun a w hW hk K hK => ?_, ?_⟩
    · obtain ⟨k0, k1, -⟩ := hk
      have k0 : a.tmps.getD 144 undef = .agg #[.int .i64 k, .int .i64 r, .slice a0 len c] := k0
      have k1 : a.tmps.getD 145 undef = .int .i64 16 := k1
      go_simp
      refine (C146.out w hW).mono ?_; rintro r7 w7 ⟨rfl, hb⟩
      go_simp
      exact hK _ _ hb (hW.trans (hb.mono hW.size)) rfl
    refine ⟨fun a w hW hk K hK => ?_, ?_⟩
    · obtain ⟨k0, k1, -⟩ := hk
      have k0 : a.tmps.getD 143 undef = .int .i64 cv := k0
      have k1 : a.tmps.getD 146 undef = .int .i64 cv := k1
      go_simp
      exact hK _ _ (Below.refl _ _) hW rfl
    refine ⟨fun a w hW hk K hK => ?_, ?_⟩
    · obtain ⟨k0, k1, -⟩ := hk
      have k0 : a.tmps.getD 140 undef = .bool true := k0
      have k1 : a.tmps.getD 147 undef = .bool true := k1
      go_simp
      exact hK _ _ (Below.refl _ _) hW rfl
    refine ⟨fun a w hW hk K hK => ?_, ?_⟩
    · obtain ⟨k0, -⟩ := hk
      have k0 : a.tmps.getD 148 undef = .bool true := k0
      go_simp
      exact hK _ _ (Below.refl _ _) hW rfl
    trivial
end Go.Proofs.YtpcnlplcpoohgabDoor
