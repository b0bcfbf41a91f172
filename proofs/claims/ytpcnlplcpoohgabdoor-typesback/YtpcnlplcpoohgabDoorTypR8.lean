/-
  The last test of TypesDoes: a region that draws its order; it says yes.
-/
import Derived.Test.YtpcnlplcpoohgabDoorCalm
import Derived.Test.YtpcnlplcpoohgabDoorTypRead
namespace Go.Proofs.YtpcnlplcpoohgabDoor
open Go.ChangeShapes Go.WideShapes Go.ChangeAt Go.RowKit
set_option linter.unusedVariables false


def regionOf (i : Nat) : Code → Option Code
  | .region k ops d => if k = i then some (.region k ops d) else none
  | .loop c => regionOf i c
  | .seq a b => match regionOf i a with
    | some c => some c
    | none => regionOf i b
  | .block _ c => regionOf i c
  | .scope c => regionOf i c
  | .cond _ a b => match regionOf i a with
    | some c => some c
    | none => regionOf i b
  | _ => none

def r8E (H4 : Nat) (H5 : Nat) (H9 : Nat) (H10 : Nat) (H12 : Nat) (regs : Int) (k : Int) (r : Int) (a0 : Option Addr) (len : Nat) (c : Nat) (ku : Int) (ru : Int) (b : Option Addr) (lu : Nat) (d : Nat) (a1 : Option Addr) (c1 : Nat) (kx : Int) (rx : Int) (ax : Option Addr) (lx : Nat) (cx : Nat) (ay : Option Addr) (cy : Nat) (cv : Int) (qb : Bool) (ob : Bool) (tx : List UInt8) (t : Tmp) (v : Value) (w : World) : Prop :=
  v = (([(2, .int .i64 regs), (4, .pointer (some ⟨H4, 0, none⟩)), (5, .pointer (some ⟨H5, 0, none⟩)), (9, .pointer (some ⟨H9, 0, none⟩)), (10, .pointer (some ⟨H10, 0, none⟩)), (11, .bool ob), (12, .pointer (some ⟨H12, 0, none⟩)), (13, .bool ob), (41, .agg #[.int .i64 k, .int .i64 r, .slice a1 len c1]), (42, .int .i64 regs), (43, .int .i64 cv), (44, .agg #[.int .i64 k, .int .i64 r, .slice a0 len c]), (45, .int .i64 regs), (46, .int .i64 cv), (47, .bool true), (48, .bool true), (49, .agg #[.int .i64 k, .int .i64 r, .slice a1 len c1]), (50, .agg #[.int .i64 ku, .int .i64 ru, .slice b lu d]), (51, .bool qb), (52, .agg #[.int .i64 k, .int .i64 r, .slice a0 len c]), (53, .agg #[.int .i64 ku, .int .i64 ru, .slice b lu d]), (54, .bool qb), (55, .bool true), (56, .bool true), (57, .bool true), (58, .bool ob), (59, .bool ob), (60, .bool true), (61, .bool true), (62, .bool true), (63, .agg #[.int .i64 kx, .int .i64 rx, .slice ax lx cx]), (64, .agg #[.int .i64 kx, .int .i64 rx, .slice ay lx cy]), (65, .bool true), (66, .bool true), (67, .bool true), (68, .agg #[.int .i64 k, .int .i64 r, .slice a1 len c1]), (69, .string ⟨tx.toArray⟩), (70, .agg #[.int .i64 k, .int .i64 r, .slice a0 len c]), (71, .string ⟨tx.toArray⟩), (72, .bool true), (73, .bool true), (74, .bool true), (75, .agg #[.int .i64 k, .int .i64 r, .slice a1 len c1]), (76, .agg #[.int .i64 k, .int .i64 r, .slice a0 len c]), (77, .bool true), (78, .bool true), (8, .bool true)] : List (Tmp × Value)).lookup t).getD undef

set_option maxRecDepth 100000 in
set_option maxHeartbeats 8000000 in
theorem r8_true {w6 : World} {H4 : Nat} {H5 : Nat} {H9 : Nat} {H10 : Nat} {H12 : Nat} {regs : Int} {k : Int} {r : Int} {a0 : Option Addr} {len : Nat} {c : Nat} {ku : Int} {ru : Int} {b : Option Addr} {lu : Nat} {d : Nat} {a1 : Option Addr} {c1 : Nat} {kx : Int} {rx : Int} {ax : Option Addr} {lx : Nat} {cx : Nat} {ay : Option Addr} {cy : Nat} {cv : Int} {qb : Bool} {ob : Bool} {tx : List UInt8}
    (B4 : w6.heap[H4]? = some (.cells #[.int .i64 k, .int .i64 r, .slice a0 len c] 24 (0, 0)))
    (B5 : w6.heap[H5]? = some (.cells #[.int .i64 ku, .int .i64 ru, .slice b lu d] 24 (0, 0)))
    (B9 : w6.heap[H9]? = some (.cells #[.int .i64 k, .int .i64 r, .slice a1 len c1] 24 (0, 0)))
    (B10 : w6.heap[H10]? = some (.cells #[.int .i64 kx, .int .i64 rx, .slice ax lx cx] 24 (0, 0)))
    (B12 : w6.heap[H12]? = some (.cells #[.int .i64 kx, .int .i64 rx, .slice ay lx cy] 24 (0, 0)))
    (C43 : Hid (∀ wx, Below w6.heap.size w6 wx → Calls Tryd.prog 10 #[.agg #[.int .i64 k, .int .i64 r, .slice a1 len c1], .int .i64 regs] wx fun e w' => e = .returned (.int .i64 cv) ∧ Below wx.heap.size wx w'))
    (C46 : Hid (∀ wx, Below w6.heap.size w6 wx → Calls Tryd.prog 11 #[.agg #[.int .i64 k, .int .i64 r, .slice a0 len c], .int .i64 regs] wx fun e w' => e = .returned (.int .i64 cv) ∧ Below wx.heap.size wx w'))
    (C51 : Hid (∀ wx, Below w6.heap.size w6 wx → Calls Tryd.prog 12 #[.agg #[.int .i64 k, .int .i64 r, .slice a1 len c1], .agg #[.int .i64 ku, .int .i64 ru, .slice b lu d]] wx fun e w' => e = .returned (.bool qb) ∧ Below wx.heap.size wx w'))
    (C54 : Hid (∀ wx, Below w6.heap.size w6 wx → Calls Tryd.prog 13 #[.agg #[.int .i64 k, .int .i64 r, .slice a0 len c], .agg #[.int .i64 ku, .int .i64 ru, .slice b lu d]] wx fun e w' => e = .returned (.bool qb) ∧ Below wx.heap.size wx w'))
    (C65 : Hid (∀ wx, Below w6.heap.size w6 wx → Calls Tryd.prog 13 #[.agg #[.int .i64 kx, .int .i64 rx, .slice ax lx cx], .agg #[.int .i64 kx, .int .i64 rx, .slice ay lx cy]] wx fun e w' => e = .returned (.bool true) ∧ Below wx.heap.size wx w'))
    (C69 : Hid (∀ wx, Below w6.heap.size w6 wx → Calls Tryd.prog 14 #[.agg #[.int .i64 k, .int .i64 r, .slice a1 len c1]] wx fun e w' => e = .returned (.string ⟨tx.toArray⟩) ∧ Below wx.heap.size wx w'))
    (C71 : Hid (∀ wx, Below w6.heap.size w6 wx → Calls Tryd.prog 15 #[.agg #[.int .i64 k, .int .i64 r, .slice a0 len c]] wx fun e w' => e = .returned (.string ⟨tx.toArray⟩) ∧ Below wx.heap.size wx w'))
    (C77 : Hid (∀ wx, Below w6.heap.size w6 wx → Calls Tryd.prog 13 #[.agg #[.int .i64 k, .int .i64 r, .slice a1 len c1], .agg #[.int .i64 k, .int .i64 r, .slice a0 len c]] wx fun e w' => e = .returned (.bool true) ∧ Below wx.heap.size wx w'))
    (a : Act) (n : Nat) (hn : a.tmps.size = n) (hn' : 79 ≤ n) (h2 : a.tmps.getD 2 undef = .int .i64 regs) (h4 : a.tmps.getD 4 undef = .pointer (some ⟨H4, 0, none⟩)) (h5 : a.tmps.getD 5 undef = .pointer (some ⟨H5, 0, none⟩)) (h9 : a.tmps.getD 9 undef = .pointer (some ⟨H9, 0, none⟩)) (h10 : a.tmps.getD 10 undef = .pointer (some ⟨H10, 0, none⟩)) (h11 : a.tmps.getD 11 undef = .bool ob) (h12 : a.tmps.getD 12 undef = .pointer (some ⟨H12, 0, none⟩)) (h13 : a.tmps.getD 13 undef = .bool ob) :
    Code.wp Tryd.prog ((Tryd.f3.body.bind (regionOf 8)).getD .skip) (fun e a' w' => e = .normal ∧ ∃ vs, a' = puts a vs (List.range' 41 38 ++ [8]) ∧ vs 8 = .bool true ∧ Below w6.heap.size w6 w') a w6 := by
  conv => arg 2; whnf

  refine wp_region_calm (r8E H4 H5 H9 H10 H12 regs k r a0 len c ku ru b lu d a1 c1 kx rx ax lx cx ay cy cv qb ob tx) (fun w => Below w6.heap.size w6 w) (fun w w' => Below w.heap.size w w') (outs := [2, 4, 5, 9, 10, 11, 12, 13]) (gs := [(7, some true), (16, some true), (21, some true), (26, some true), (33, some true)]) (bs := [true, true, true, true, true, true, true, true, true, true, true, true, true, true, true, true, true, true, true, true, true, true, true, true, true, true, true, true, true, true, true, true, true, true, true, true, true, true, true]) (by kernel_rfl) (n := 79) hn hn' (by kernel_rfl) ?hR ?hG (drewN_below (m := 1) (Below.refl _ _)) ⟨h2, h4, h5, h9, h10, h11, h12, h13, trivial⟩ ?hA ?hend
  case hR => exact fun t v w w' _ h => h
  case hG => exact ⟨fun t ht v w _ h => by cases ht; exact h, fun t ht v w _ h => by cases ht; exact h, fun t ht v w _ h => by cases ht; exact h, fun t ht v w _ h => by cases ht; exact h, fun t ht v w _ h => by cases ht; exact h, trivial⟩
  case hend => exact fun vs w' hW hk => ⟨rfl, vs, rfl, hk 8 (by kernel_rfl), hW⟩
  case hA =>
    refine ⟨fun a w hW hk K hK => ?_, ?_⟩
    · obtain ⟨k0, -⟩ := hk
      have k0 : a.tmps.getD 9 undef = .pointer (some ⟨H9, 0, none⟩) := k0
      have c0 := cellOf (box_cells B9 hW) 0 _ rfl
      have c1 := cellOf (box_cells B9 hW) 1 _ rfl
      have c2 := cellOf (box_cells B9 hW) 2 _ rfl
      go_simp
      exact hK _ _ (Below.refl _ _) hW rfl
    refine ⟨fun a w hW hk K hK => ?_, ?_⟩
    · obtain ⟨k0, -⟩ := hk
      have k0 : a.tmps.getD 2 undef = .int .i64 regs := k0
      go_simp
      exact hK _ _ (Below.refl _ _) hW rfl
    refine ⟨fun a w hW hk K hK => ?_, ?_⟩
    · obtain ⟨k0, k1, -⟩ := hk
      have k0 : a.tmps.getD 41 undef = .agg #[.int .i64 k, .int .i64 r, .slice a1 len c1] := k0
      have k1 : a.tmps.getD 42 undef = .int .i64 regs := k1
      go_simp
      refine (C43.out w hW).mono ?_; rintro r7 w7 ⟨rfl, hb⟩
      go_simp
      exact hK _ _ hb (hW.trans (hb.mono hW.size)) rfl
    refine ⟨fun a w hW hk K hK => ?_, ?_⟩
    · obtain ⟨k0, -⟩ := hk
      have k0 : a.tmps.getD 4 undef = .pointer (some ⟨H4, 0, none⟩) := k0
      have c0 := cellOf (box_cells B4 hW) 0 _ rfl
      have c1 := cellOf (box_cells B4 hW) 1 _ rfl
      have c2 := cellOf (box_cells B4 hW) 2 _ rfl
      go_simp
      exact hK _ _ (Below.refl _ _) hW rfl
    refine ⟨fun a w hW hk K hK => ?_, ?_⟩
    · obtain ⟨k0, -⟩ := hk
      have k0 : a.tmps.getD 2 undef = .int .i64 regs := k0
      go_simp
      exact hK _ _ (Below.refl _ _) hW rfl
    refine ⟨fun a w hW hk K hK => ?_, ?_⟩
    · obtain ⟨k0, k1, -⟩ := hk
      have k0 : a.tmps.getD 44 undef = .agg #[.int .i64 k, .int .i64 r, .slice a0 len c] := k0
      have k1 : a.tmps.getD 45 undef = .int .i64 regs := k1
      go_simp
      refine (C46.out w hW).mono ?_; rintro r7 w7 ⟨rfl, hb⟩
      go_simp
      exact hK _ _ hb (hW.trans (hb.mono hW.size)) rfl
    refine ⟨fun a w hW hk K hK => ?_, ?_⟩
    · obtain ⟨k0, k1, -⟩ := hk
      have k0 : a.tmps.getD 43 undef = .int .i64 cv := k0
      have k1 : a.tmps.getD 46 undef = .int .i64 cv := k1
      go_simp
      exact hK _ _ (Below.refl _ _) hW rfl
    refine ⟨fun a w hW hk K hK => ?_, ?_⟩
    · obtain ⟨k0, -⟩ := hk
      have k0 : a.tmps.getD 47 undef = .bool true := k0
      go_simp
      exact hK _ _ (Below.refl _ _) hW rfl
    refine ⟨fun a w hW hk K hK => ?_, ?_⟩
    · obtain ⟨k0, -⟩ := hk
      have k0 : a.tmps.getD 9 undef = .pointer (some ⟨H9, 0, none⟩) := k0
      have c0 := cellOf (box_cells B9 hW) 0 _ rfl
      have c1 := cellOf (box_cells B9 hW) 1 _ rfl
      have c2 := cellOf (box_cells B9 hW) 2 _ rfl
      go_simp
      exact hK _ _ (Below.refl _ _) hW rfl
    refine ⟨fun a w hW hk K hK => ?_, ?_⟩
    · obtain ⟨k0, -⟩ := hk
      have k0 : a.tmps.getD 5 undef = .pointer (some ⟨H5, 0, none⟩) := k0
      have c0 := cellOf (box_cells B5 hW) 0 _ rfl
      have c1 := cellOf (box_cells B5 hW) 1 _ rfl
      have c2 := cellOf (box_cells B5 hW) 2 _ rfl
      go_simp
      exact hK _ _ (Below.refl _ _) hW rfl
    refine ⟨fun a w hW hk K hK => ?_, ?_⟩
    · obtain ⟨k0, k1, -⟩ := hk
      have k0 : a.tmps.getD 49 undef = .agg #[.int .i64 k, .int .i64 r, .slice a1 len c1] := k0
      have k1 : a.tmps.getD 50 undef = .agg #[.int .i64 ku, .int .i64 ru, .slice b lu d] := k1
      go_simp
      refine (C51.out w hW).mono ?_; rintro r7 w7 ⟨rfl, hb⟩
      go_simp
      exact hK _ _ hb (hW.trans (hb.mono hW.size)) rfl
    refine ⟨fun a w hW hk K hK => ?_, ?_⟩
    · obtain ⟨k0, -⟩ := hk
      have k0 : a.tmps.getD 4 undef = .pointer (some ⟨H4, 0, none⟩) := k0
      have c0 := cellOf (box_cells B4 hW) 0 _ rfl
      have c1 := cellOf (box_cells B4 hW) 1 _ rfl
      have c2 := cellOf (box_cells B4 hW) 2 _ rfl
      go_simp
      exact hK _ _ (Below.refl _ _) hW rfl
    refine ⟨fun a w hW hk K hK => ?_, ?_⟩
    · obtain ⟨k0, -⟩ := hk
      have k0 : a.tmps.getD 5 undef = .pointer (some ⟨H5, 0, none⟩) := k0
      have c0 := cellOf (box_cells B5 hW) 0 _ rfl
      have c1 := cellOf (box_cells B5 hW) 1 _ rfl
      have c2 := cellOf (box_cells B5 hW) 2 _ rfl
      go_simp
      exact hK _ _ (Below.refl _ _) hW rfl
    refine ⟨fun a w hW hk K hK => ?_, ?_⟩
    · obtain ⟨k0, k1, -⟩ := hk
      have k0 : a.tmps.getD 52 undef = .agg #[.int .i64 k, .int .i64 r, .slice a0 len c] := k0
      have k1 : a.tmps.getD 53 undef = .agg #[.int .i64 ku, .int .i64 ru, .slice b lu d] := k1
      go_simp
      refine (C54.out w hW).mono ?_; rintro r7 w7 ⟨rfl, hb⟩
      go_simp
      exact hK _ _ hb (hW.trans (hb.mono hW.size)) rfl
    refine ⟨fun a w hW hk K hK => ?_, ?_⟩
    · obtain ⟨k0, k1, -⟩ := hk
      have k0 : a.tmps.getD 51 undef = .bool qb := k0
      have k1 : a.tmps.getD 54 undef = .bool qb := k1
      go_simp
      exact hK _ _ (Below.refl _ _) hW rfl
    refine ⟨fun a w hW hk K hK => ?_, ?_⟩
    · obtain ⟨k0, k1, -⟩ := hk
      have k0 : a.tmps.getD 48 undef = .bool true := k0
      have k1 : a.tmps.getD 55 undef = .bool true := k1
      go_simp
      exact hK _ _ (Below.refl _ _) hW rfl
    refine ⟨fun a w hW hk K hK => ?_, ?_⟩
    · obtain ⟨k0, -⟩ := hk
      have k0 : a.tmps.getD 56 undef = .bool true := k0
      go_simp
      exact hK _ _ (Below.refl _ _) hW rfl
    refine ⟨fun a w hW hk K hK => ?_, ?_⟩
    · obtain ⟨k0, -⟩ := hk
      have k0 : a.tmps.getD 11 undef = .bool ob := k0
      go_simp
      exact hK _ _ (Below.refl _ _) hW rfl
    refine ⟨fun a w hW hk K hK => ?_, ?_⟩
    · obtain ⟨k0, -⟩ := hk
      have k0 : a.tmps.getD 13 undef = .bool ob := k0
      go_simp
      exact hK _ _ (Below.refl _ _) hW rfl
    refine ⟨fun a w hW hk K hK => ?_, ?_⟩
    · obtain ⟨k0, k1, -⟩ := hk
      have k0 : a.tmps.getD 58 undef = .bool ob := k0
      have k1 : a.tmps.getD 59 undef = .bool ob := k1
      go_simp
      exact hK _ _ (Below.refl _ _) hW rfl
    refine ⟨fun a w hW hk K hK => ?_, ?_⟩
    · obtain ⟨k0, k1, -⟩ := hk
      have k0 : a.tmps.getD 57 undef = .bool true := k0
      have k1 : a.tmps.getD 60 undef = .bool true := k1
      go_simp
      exact hK _ _ (Below.refl _ _) hW rfl
    refine ⟨fun a w hW hk K hK => ?_, ?_⟩
    · obtain ⟨k0, -⟩ := hk
      have k0 : a.tmps.getD 61 undef = .bool true := k0
      go_simp
      exact hK _ _ (Below.refl _ _) hW rfl
    refine ⟨fun a w hW hk K hK => ?_, ?_⟩
    · obtain ⟨k0, -⟩ := hk
      have k0 : a.tmps.getD 10 undef = .pointer (some ⟨H10, 0, none⟩) := k0
      have c0 := cellOf (box_cells B10 hW) 0 _ rfl
      have c1 := cellOf (box_cells B10 hW) 1 _ rfl
      have c2 := cellOf (box_cells B10 hW) 2 _ rfl
      go_simp
      exact hK _ _ (Below.refl _ _) hW rfl
    refine ⟨fun a w hW hk K hK => ?_, ?_⟩
    · obtain ⟨k0, -⟩ := hk
      have k0 : a.tmps.getD 12 undef = .pointer (some ⟨H12, 0, none⟩) := k0
      have c0 := cellOf (box_cells B12 hW) 0 _ rfl
      have c1 := cellOf (box_cells B12 hW) 1 _ rfl
      have c2 := cellOf (box_cells B12 hW) 2 _ rfl
      go_simp
      exact hK _ _ (Below.refl _ _) hW rfl
    refine ⟨fun a w hW hk K hK => ?_, ?_⟩
    · obtain ⟨k0, k1, -⟩ := hk
      have k0 : a.tmps.getD 63 undef = .agg #[.int .i64 kx, .int .i64 rx, .slice ax lx cx] := k0
      have k1 : a.tmps.getD 64 undef = .agg #[.int .i64 kx, .int .i64 rx, .slice ay lx cy] := k1
      go_simp
      refine (C65.out w hW).mono ?_; rintro r7 w7 ⟨rfl, hb⟩
      go_simp
      exact hK _ _ hb (hW.trans (hb.mono hW.size)) rfl
    refine ⟨fun a w hW hk K hK => ?_, ?_⟩
    · obtain ⟨k0, k1, -⟩ := hk
      have k0 : a.tmps.getD 62 undef = .bool true := k0
      have k1 : a.tmps.getD 65 undef = .bool true := k1
      go_simp
      exact hK _ _ (Below.refl _ _) hW rfl
    refine ⟨fun a w hW hk K hK => ?_, ?_⟩
    · obtain ⟨k0, -⟩ := hk
      have k0 : a.tmps.getD 66 undef = .bool true := k0
      go_simp
      exact hK _ _ (Below.refl _ _) hW rfl
    refine ⟨fun a w hW hk K hK => ?_, ?_⟩
    · obtain ⟨k0, -⟩ := hk
      have k0 : a.tmps.getD 9 undef = .pointer (some ⟨H9, 0, none⟩) := k0
      have c0 := cellOf (box_cells B9 hW) 0 _ rfl
      have c1 := cellOf (box_cells B9 hW) 1 _ rfl
      have c2 := cellOf (box_cells B9 hW) 2 _ rfl
      go_simp
      exact hK _ _ (Below.refl _ _) hW rfl
    refine ⟨fun a w hW hk K hK => ?_, ?_⟩
    · obtain ⟨k0, -⟩ := hk
      have k0 : a.tmps.getD 68 undef = .agg #[.int .i64 k, .int .i64 r, .slice a1 len c1] := k0
      go_simp
      refine (C69.out w hW).mono ?_; rintro r7 w7 ⟨rfl, hb⟩
      go_simp
      exact hK _ _ hb (hW.trans (hb.mono hW.size)) rfl
    refine ⟨fun a w hW hk K hK => ?_, ?_⟩
    · obtain ⟨k0, -⟩ := hk
      have k0 : a.tmps.getD 4 undef = .pointer (some ⟨H4, 0, none⟩) := k0
      have c0 := cellOf (box_cells B4 hW) 0 _ rfl
      have c1 := cellOf (box_cells B4 hW) 1 _ rfl
      have c2 := cellOf (box_cells B4 hW) 2 _ rfl
      go_simp
      exact hK _ _ (Below.refl _ _) hW rfl
    refine ⟨fun a w hW hk K hK => ?_, ?_⟩
    · obtain ⟨k0, -⟩ := hk
      have k0 : a.tmps.getD 70 undef = .agg #[.int .i64 k, .int .i64 r, .slice a0 len c] := k0
      go_simp
      refine (C71.out w hW).mono ?_; rintro r7 w7 ⟨rfl, hb⟩
      go_simp
      exact hK _ _ hb (hW.trans (hb.mono hW.size)) rfl
    refine ⟨fun a w hW hk K hK => ?_, ?_⟩
    · obtain ⟨k0, k1, -⟩ := hk
      have k0 : a.tmps.getD 69 undef = .string ⟨tx.toArray⟩ := k0
      have k1 : a.tmps.getD 71 undef = .string ⟨tx.toArray⟩ := k1
      go_simp
      exact hK _ _ (Below.refl _ _) hW rfl
    refine ⟨fun a w hW hk K hK => ?_, ?_⟩
    · obtain ⟨k0, k1, -⟩ := hk
      have k0 : a.tmps.getD 67 undef = .bool true := k0
      have k1 : a.tmps.getD 72 undef = .bool true := k1
      go_simp
      exact hK _ _ (Below.refl _ _) hW rfl
    refine ⟨fun a w hW hk K hK => ?_, ?_⟩
    · obtain ⟨k0, -⟩ := hk
      have k0 : a.tmps.getD 73 undef = .bool true := k0
      go_simp
      exact hK _ _ (Below.refl _ _) hW rfl
    refine ⟨fun a w hW hk K hK => ?_, ?_⟩
    · obtain ⟨k0, -⟩ := hk
      have k0 : a.tmps.getD 9 undef = .pointer (some ⟨H9, 0, none⟩) := k0
      have c0 := cellOf (box_cells B9 hW) 0 _ rfl
      have c1 := cellOf (box_cells B9 hW) 1 _ rfl
      have c2 := cellOf (box_cells B9 hW) 2 _ rfl
      go_simp
      exact hK _ _ (Below.refl _ _) hW rfl
    refine ⟨fun a w hW hk K hK => ?_, ?_⟩
    · obtain ⟨k0, -⟩ := hk
      have k0 : a.tmps.getD 4 undef = .pointer (some ⟨H4, 0, none⟩) := k0
      have c0 := cellOf (box_cells B4 hW) 0 _ rfl
      have c1 := cellOf (box_cells B4 hW) 1 _ rfl
      have c2 := cellOf (box_cells B4 hW) 2 _ rfl
      go_simp
      exact hK _ _ (Below.refl _ _) hW rfl
    refine ⟨fun a w hW hk K hK => ?_, ?_⟩
    · obtain ⟨k0, k1, -⟩ := hk
      have k0 : a.tmps.getD 75 undef = .agg #[.int .i64 k, .int .i64 r, .slice a1 len c1] := k0
      have k1 : a.tmps.getD 76 undef = .agg #[.int .i64 k, .int .i64 r, .slice a0 len c] := k1
      go_simp
      refine (C77.out w hW).mono ?_; rintro r7 w7 ⟨rfl, hb⟩
      go_simp
      exact hK _ _ hb (hW.trans (hb.mono hW.size)) rfl
    refine ⟨fun a w hW hk K hK => ?_, ?_⟩
    · obtain ⟨k0, k1, -⟩ := hk
      have k0 : a.tmps.getD 74 undef = .bool true := k0
      have k1 : a.tmps.getD 77 undef = .bool true := k1
      go_simp
      exact hK _ _ (Below.refl _ _) hW rfl
    refine ⟨fun a w hW hk K hK => ?_, ?_⟩
    · obtain ⟨k0, -⟩ := hk
      have k0 : a.tmps.getD 78 undef = .bool true := k0
      go_simp
      exact hK _ _ (Below.refl _ _) hW rfl
    trivial
end Go.Proofs.YtpcnlplcpoohgabDoor
