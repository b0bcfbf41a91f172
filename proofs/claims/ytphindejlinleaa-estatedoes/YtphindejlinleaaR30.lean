/-
  The test behind each step of EstateDoes: a region that draws its order; it says no.
-/
import Derived.Test.YtphindejlinleaaCalm
import Derived.Test.YtphindejlinleaaEDoesX
namespace Go.Proofs.Ytphindejlinleaa
open Go.ChangeShapes Go.WideShapes Go.ChangeAt Go.RowKit
set_option linter.unusedVariables false

def regionOf (i : Nat) : Code → Option Code
  | .region k ops d => if k = i then some (.region k ops d) else none
  | .loop c => regionOf i c
  | .seq a b => match regionOf i a with
    | some c => some c
    | none => regionOf i b
  | .block _ c => regionOf i c
  | .scope c => regionOf i c
  | .cond _ a b => match regionOf i a with
    | some c => some c
    | none => regionOf i b
  | _ => none

def r30E (b bp c cp gl X j : Nat) (cn fn : Int) (al : Option Addr) (cl : Nat) (pl : List Int) (t : Tmp) (v : Value) (w : World) : Prop :=
  match ([(157, fun v w => Longs w v pl)] : List (Tmp × (Value → World → Prop))).lookup t with
  | some p => p v w
  | none => v = (([(5, .pointer (some ⟨b, 0, none⟩)), (7, .pointer (some ⟨c, 0, none⟩)), (9, .pointer (some ⟨X, 0, none⟩)), (119, .pointer (some ⟨b, 0, none⟩)), (120, .pointer (some ⟨X, 1, none⟩)), (121, .int .i64 (j : Int)), (122, .bool true), (123, .pointer (some ⟨c, 0, none⟩)), (124, .pointer (some ⟨X, 1, none⟩)), (125, .int .i64 (j : Int)), (126, .bool true), (127, .bool false), (128, .bool false), (129, .pointer (some ⟨b, 0, none⟩)), (130, .int .i64 cn), (131, .pointer (some ⟨c, 0, none⟩)), (132, .int .i64 cn), (133, .bool false), (134, .bool false), (135, .bool false), (136, .pointer (some ⟨b, 0, none⟩)), (137, .pointer (some ⟨b, 0, none⟩)), (138, .pointer (some ⟨b, 0, none⟩)), (139, .pointer (some ⟨bp, 0, none⟩)), (140, .int .i64 fn), (141, .pointer (some ⟨c, 0, none⟩)), (142, .pointer (some ⟨c, 0, none⟩)), (143, .pointer (some ⟨c, 0, none⟩)), (144, .pointer (some ⟨cp, 0, none⟩)), (145, .int .i64 fn), (146, .bool false), (147, .bool false), (148, .bool false), (149, .pointer (some ⟨c, 0, none⟩)), (150, .pointer (some ⟨X, 1, none⟩)), (151, .int .i64 (j : Int)), (152, .bool true), (153, .bool true), (154, .pointer (some ⟨b, 0, none⟩)), (155, .pointer (some ⟨X, 1, none⟩)), (156, .int .i64 (j : Int)), (158, .pointer (some ⟨c, 0, none⟩)), (159, .pointer (some ⟨c, 0, none⟩)), (160, .pointer (some ⟨c, 1, none⟩)), (161, .slice (some ⟨gl, 0, none⟩) 16 16), (162, .pointer (some ⟨X, 1, none⟩)), (163, .int .i64 (j : Int)), (164, .pointer (some ⟨gl, j * 3, none⟩)), (165, .pointer (some ⟨gl, j * 3 + 1, none⟩)), (166, .slice al pl.length cl), (167, .bool true), (168, .bool false), (169, .bool false), (170, .bool false), (171, .bool false), (172, .pointer (some ⟨c, 0, none⟩)), (173, .pointer (some ⟨X, 1, none⟩)), (174, .int .i64 (j : Int)), (175, .bool true), (176, .bool false), (177, .bool false), (178, undef), (179, undef), (180, undef), (181, undef), (182, undef), (183, undef), (184, .bool false), (185, .bool false)] : List (Tmp × Value)).lookup t).getD undef

set_option maxRecDepth 100000 in
set_option maxHeartbeats 4000000 in
theorem r30_true {w1 w6 : World} {b bp c cp gl X : Nat} {e' : Est} {x z : Int} {j : Nat} {cn fn : Int} {al : Option Addr} {cl : Nat} {pl : List Int} (hj0 : (0 : Int) ≤ j) (hj1 : (j : Int) < 16)
    (HQ : Hid (LX w1 w6 b bp c cp gl X e' e' x j z)) (HH : Hid (e'.has j = true)) (HC : Hid (e'.count = cn)) (HF : Hid (e'.p.free = fn)) (HI : Hid ((if e'.has j then e'.pagesAt (Int.toNat j) else []) = pl))
    (HLL : Hid (Longs w6 (.slice al pl.length cl) pl)) (HP : Hid (pl.length ≤ 1000000)) (HS : Hid (∀ wx, Below w6.heap.size w6 wx → wx.cell? ⟨gl, j * 3 + 1, none⟩ = some (.slice al pl.length cl)))
    (a : Act) (n : Nat) (hn : a.tmps.size = n) (hn' : 186 ≤ n) (h5 : a.tmps.getD 5 undef = .pointer (some ⟨b, 0, none⟩)) (h7 : a.tmps.getD 7 undef = .pointer (some ⟨c, 0, none⟩)) (h9 : a.tmps.getD 9 undef = .pointer (some ⟨X, 0, none⟩)) :
    Code.wp Try.prog ((Try.f7.body.bind (regionOf 30)).getD .skip) (fun e a' w' => e = .normal ∧ ∃ vs, a' = puts a vs (List.range' 119 67) ∧ vs 185 = .bool false ∧ Below w6.heap.size w6 w') a w6 := by
  conv => arg 2; whnf

  refine wp_region_calm (r30E b bp c cp gl X j cn fn al cl pl) (fun w => Below w6.heap.size w6 w) (fun w w' => Below w.heap.size w w') (outs := [5, 7, 9]) (gs := [(9, some false), (16, some false), (29, some false), (34, some true), (52, some false), (58, some false)]) (bs := [true, true, true, true, true, true, true, true, true, true, true, true, true, true, true, true, true, true, true, true, true, true, true, true, true, true, true, true, true, true, true, true, true, true, true, true, true, true, true, true, true, true, true, true, true, true, true, true, true, true, true, true, true, true, true, true, true, true, true, false, false, false, false, false, false, true, true]) (by kernel_rfl) (n := 186) hn hn' (by kernel_rfl) ?hR ?hG (belowN (Below.refl _ _) 1) ⟨h5, h7, h9, trivial⟩ ?hA ?hend
  case hR =>
    intro t v w w' hr h
    unfold r30E at h ⊢
    split at h
    · rename_i p hp
      simp only [List.lookup_cons, List.lookup_nil] at hp
      split at hp
      · cases hp; exact Longs.below h hr
      · cases hp
    · exact h
  case hG => exact ⟨fun t ht v w _ h => by cases ht; exact h, fun t ht v w _ h => by cases ht; exact h, fun t ht v w _ h => by cases ht; exact h, fun t ht v w _ h => by cases ht; exact h, fun t ht v w _ h => by cases ht; exact h, fun t ht v w _ h => by cases ht; exact h, trivial⟩
  case hend => exact fun vs w' hW hk => ⟨rfl, vs, rfl, hk 185 (by kernel_rfl), hW⟩
  case hA =>
    refine ⟨fun a w hW hk K hK => ?_, ?_⟩
    · obtain ⟨k0, -⟩ := hk
      have k0 : a.tmps.getD 5 undef = .pointer (some ⟨b, 0, none⟩) := k0
      go_simp
      exact hK _ _ (Below.refl _ _) hW rfl
    refine ⟨fun a w hW hk K hK => ?_, ?_⟩
    · obtain ⟨k0, -⟩ := hk
      have k0 : a.tmps.getD 9 undef = .pointer (some ⟨X, 0, none⟩) := k0
      go_simp
      exact hK _ _ (Below.refl _ _) hW rfl
    refine ⟨fun a w hW hk K hK => ?_, ?_⟩
    · obtain ⟨k0, -⟩ := hk
      have k0 : a.tmps.getD 120 undef = .pointer (some ⟨X, 1, none⟩) := k0
      have c0 := (HQ.out.below hW).at1
      go_simp
      exact hK _ _ (Below.refl _ _) hW rfl
    refine ⟨fun a w hW hk K hK => ?_, ?_⟩
    · obtain ⟨k0, k1, -⟩ := hk
      have k0 : a.tmps.getD 119 undef = .pointer (some ⟨b, 0, none⟩) := k0
      have k1 : a.tmps.getD 121 undef = .int .i64 (j : Int) := k1
      go_simp
      refine (has_lb (j : Int) (HQ.out.below hW).1).mono ?_; rw [HH.out]; rintro r7 w7 ⟨rfl, hw⟩
      have hw := hw.symm; subst hw
      go_simp
      exact hK _ _ (Below.refl _ _) hW rfl
    refine ⟨fun a w hW hk K hK => ?_, ?_⟩
    · obtain ⟨k0, -⟩ := hk
      have k0 : a.tmps.getD 7 undef = .pointer (some ⟨c, 0, none⟩) := k0
      go_simp
      exact hK _ _ (Below.refl _ _) hW rfl
    refine ⟨fun a w hW hk K hK => ?_, ?_⟩
    · obtain ⟨k0, -⟩ := hk
      have k0 : a.tmps.getD 9 undef = .pointer (some ⟨X, 0, none⟩) := k0
      go_simp
      exact hK _ _ (Below.refl _ _) hW rfl
    refine ⟨fun a w hW hk K hK => ?_, ?_⟩
    · obtain ⟨k0, -⟩ := hk
      have k0 : a.tmps.getD 124 undef = .pointer (some ⟨X, 1, none⟩) := k0
      have c0 := (HQ.out.below hW).at1
      go_simp
      exact hK _ _ (Below.refl _ _) hW rfl
    refine ⟨fun a w hW hk K hK => ?_, ?_⟩
    · obtain ⟨k0, k1, -⟩ := hk
      have k0 : a.tmps.getD 123 undef = .pointer (some ⟨c, 0, none⟩) := k0
      have k1 : a.tmps.getD 125 undef = .int .i64 (j : Int) := k1
      go_simp
      refine (lhas_lb (j : Int) (HQ.out.below hW).1).mono ?_; rw [HH.out]; rintro r7 w7 ⟨rfl, hw⟩
      have hw := hw.symm; subst hw
      go_simp
      exact hK _ _ (Below.refl _ _) hW rfl
    refine ⟨fun a w hW hk K hK => ?_, ?_⟩
    · obtain ⟨k0, k1, -⟩ := hk
      have k0 : a.tmps.getD 122 undef = .bool true := k0
      have k1 : a.tmps.getD 126 undef = .bool true := k1
      go_simp
      exact hK _ _ (Below.refl _ _) hW rfl
    refine ⟨fun a w hW hk K hK => ?_, ?_⟩
    · obtain ⟨k0, -⟩ := hk
      have k0 : a.tmps.getD 127 undef = .bool false := k0
      go_simp
      exact hK _ _ (Below.refl _ _) hW rfl
    refine ⟨fun a w hW hk K hK => ?_, ?_⟩
    · obtain ⟨k0, -⟩ := hk
      have k0 : a.tmps.getD 5 undef = .pointer (some ⟨b, 0, none⟩) := k0
      go_simp
      exact hK _ _ (Below.refl _ _) hW rfl
    refine ⟨fun a w hW hk K hK => ?_, ?_⟩
    · obtain ⟨k0, -⟩ := hk
      have k0 : a.tmps.getD 129 undef = .pointer (some ⟨b, 0, none⟩) := k0
      go_simp
      refine (count_lb (HQ.out.below hW).1).mono ?_; rw [HC.out]; rintro r7 w7 ⟨rfl, hw⟩
      have hw := hw.symm; subst hw
      go_simp
      exact hK _ _ (Below.refl _ _) hW rfl
    refine ⟨fun a w hW hk K hK => ?_, ?_⟩
    · obtain ⟨k0, -⟩ := hk
      have k0 : a.tmps.getD 7 undef = .pointer (some ⟨c, 0, none⟩) := k0
      go_simp
      exact hK _ _ (Below.refl _ _) hW rfl
    refine ⟨fun a w hW hk K hK => ?_, ?_⟩
    · obtain ⟨k0, -⟩ := hk
      have k0 : a.tmps.getD 131 undef = .pointer (some ⟨c, 0, none⟩) := k0
      go_simp
      refine (lcount_lb (HQ.out.below hW).1).mono ?_; rw [HC.out]; rintro r7 w7 ⟨rfl, hw⟩
      have hw := hw.symm; subst hw
      go_simp
      exact hK _ _ (Below.refl _ _) hW rfl
    refine ⟨fun a w hW hk K hK => ?_, ?_⟩
    · obtain ⟨k0, k1, -⟩ := hk
      have k0 : a.tmps.getD 130 undef = .int .i64 cn := k0
      have k1 : a.tmps.getD 132 undef = .int .i64 cn := k1
      go_simp
      exact hK _ _ (Below.refl _ _) hW rfl
    refine ⟨fun a w hW hk K hK => ?_, ?_⟩
    · obtain ⟨k0, k1, -⟩ := hk
      have k0 : a.tmps.getD 128 undef = .bool false := k0
      have k1 : a.tmps.getD 133 undef = .bool false := k1
      go_simp
      exact hK _ _ (Below.refl _ _) hW rfl
    refine ⟨fun a w hW hk K hK => ?_, ?_⟩
    · obtain ⟨k0, -⟩ := hk
      have k0 : a.tmps.getD 134 undef = .bool false := k0
      go_simp
      exact hK _ _ (Below.refl _ _) hW rfl
    refine ⟨fun a w hW hk K hK => ?_, ?_⟩
    · obtain ⟨k0, -⟩ := hk
      have k0 : a.tmps.getD 5 undef = .pointer (some ⟨b, 0, none⟩) := k0
      go_simp
      exact hK _ _ (Below.refl _ _) hW rfl
    refine ⟨fun a w hW hk K hK => ?_, ?_⟩
    · obtain ⟨k0, -⟩ := hk
      have k0 : a.tmps.getD 136 undef = .pointer (some ⟨b, 0, none⟩) := k0
      go_simp
      exact hK _ _ (Below.refl _ _) hW rfl
    refine ⟨fun a w hW hk K hK => ?_, ?_⟩
    · obtain ⟨k0, -⟩ := hk
      have k0 : a.tmps.getD 137 undef = .pointer (some ⟨b, 0, none⟩) := k0
      go_simp
      exact hK _ _ (Below.refl _ _) hW rfl
    refine ⟨fun a w hW hk K hK => ?_, ?_⟩
    · obtain ⟨k0, -⟩ := hk
      have k0 : a.tmps.getD 138 undef = .pointer (some ⟨b, 0, none⟩) := k0
      have c0 := (HQ.out.below hW).1.cells.1
      go_simp
      exact hK _ _ (Below.refl _ _) hW rfl
    refine ⟨fun a w hW hk K hK => ?_, ?_⟩
    · obtain ⟨k0, -⟩ := hk
      have k0 : a.tmps.getD 139 undef = .pointer (some ⟨bp, 0, none⟩) := k0
      go_simp
      refine (free_lb (HQ.out.below hW).1).mono ?_; rw [HF.out]; rintro r7 w7 ⟨rfl, mf, hw⟩
      subst hw
      go_simp
      exact hK _ _ (belowN (Below.refl _ _) _) (belowN hW _) rfl
    refine ⟨fun a w hW hk K hK => ?_, ?_⟩
    · obtain ⟨k0, -⟩ := hk
      have k0 : a.tmps.getD 7 undef = .pointer (some ⟨c, 0, none⟩) := k0
      go_simp
      exact hK _ _ (Below.refl _ _) hW rfl
    refine ⟨fun a w hW hk K hK => ?_, ?_⟩
    · obtain ⟨k0, -⟩ := hk
      have k0 : a.tmps.getD 141 undef = .pointer (some ⟨c, 0, none⟩) := k0
      go_simp
      exact hK _ _ (Below.refl _ _) hW rfl
    refine ⟨fun a w hW hk K hK => ?_, ?_⟩
    · obtain ⟨k0, -⟩ := hk
      have k0 : a.tmps.getD 142 undef = .pointer (some ⟨c, 0, none⟩) := k0
      go_simp
      exact hK _ _ (Below.refl _ _) hW rfl
    refine ⟨fun a w hW hk K hK => ?_, ?_⟩
    · obtain ⟨k0, -⟩ := hk
      have k0 : a.tmps.getD 143 undef = .pointer (some ⟨c, 0, none⟩) := k0
      have c0 := (HQ.out.below hW).1.cells.2.1
      go_simp
      exact hK _ _ (Below.refl _ _) hW rfl
    refine ⟨fun a w hW hk K hK => ?_, ?_⟩
    · obtain ⟨k0, -⟩ := hk
      have k0 : a.tmps.getD 144 undef = .pointer (some ⟨cp, 0, none⟩) := k0
      go_simp
      refine (lfree_lb (HQ.out.below hW).1).mono ?_; rw [HF.out]; rintro r7 w7 ⟨rfl, mf, hw⟩
      subst hw
      go_simp
      exact hK _ _ (belowN (Below.refl _ _) _) (belowN hW _) rfl
    refine ⟨fun a w hW hk K hK => ?_, ?_⟩
    · obtain ⟨k0, k1, -⟩ := hk
      have k0 : a.tmps.getD 140 undef = .int .i64 fn := k0
      have k1 : a.tmps.getD 145 undef = .int .i64 fn := k1
      go_simp
      exact hK _ _ (Below.refl _ _) hW rfl
    refine ⟨fun a w hW hk K hK => ?_, ?_⟩
    · obtain ⟨k0, k1, -⟩ := hk
      have k0 : a.tmps.getD 135 undef = .bool false := k0
      have k1 : a.tmps.getD 146 undef = .bool false := k1
      go_simp
      exact hK _ _ (Below.refl _ _) hW rfl
    refine ⟨fun a w hW hk K hK => ?_, ?_⟩
    · obtain ⟨k0, -⟩ := hk
      have k0 : a.tmps.getD 147 undef = .bool false := k0
      go_simp
      exact hK _ _ (Below.refl _ _) hW rfl
    refine ⟨fun a w hW hk K hK => ?_, ?_⟩
    · obtain ⟨k0, -⟩ := hk
      have k0 : a.tmps.getD 7 undef = .pointer (some ⟨c, 0, none⟩) := k0
      go_simp
      exact hK _ _ (Below.refl _ _) hW rfl
    refine ⟨fun a w hW hk K hK => ?_, ?_⟩
    · obtain ⟨k0, -⟩ := hk
      have k0 : a.tmps.getD 9 undef = .pointer (some ⟨X, 0, none⟩) := k0
      go_simp
      exact hK _ _ (Below.refl _ _) hW rfl
    refine ⟨fun a w hW hk K hK => ?_, ?_⟩
    · obtain ⟨k0, -⟩ := hk
      have k0 : a.tmps.getD 150 undef = .pointer (some ⟨X, 1, none⟩) := k0
      have c0 := (HQ.out.below hW).at1
      go_simp
      exact hK _ _ (Below.refl _ _) hW rfl
    refine ⟨fun a w hW hk K hK => ?_, ?_⟩
    · obtain ⟨k0, k1, -⟩ := hk
      have k0 : a.tmps.getD 149 undef = .pointer (some ⟨c, 0, none⟩) := k0
      have k1 : a.tmps.getD 151 undef = .int .i64 (j : Int) := k1
      go_simp
      refine (lhas_lb (j : Int) (HQ.out.below hW).1).mono ?_; rw [HH.out]; rintro r7 w7 ⟨rfl, hw⟩
      have hw := hw.symm; subst hw
      go_simp
      exact hK _ _ (Below.refl _ _) hW rfl
    refine ⟨fun a w hW hk K hK => ?_, ?_⟩
    · obtain ⟨k0, -⟩ := hk
      have k0 : a.tmps.getD 152 undef = .bool true := k0
      go_simp
      exact hK _ _ (Below.refl _ _) hW rfl
    refine ⟨fun a w hW hk K hK => ?_, ?_⟩
    · obtain ⟨k0, -⟩ := hk
      have k0 : a.tmps.getD 5 undef = .pointer (some ⟨b, 0, none⟩) := k0
      go_simp
      exact hK _ _ (Below.refl _ _) hW rfl
    refine ⟨fun a w hW hk K hK => ?_, ?_⟩
    · obtain ⟨k0, -⟩ := hk
      have k0 : a.tmps.getD 9 undef = .pointer (some ⟨X, 0, none⟩) := k0
      go_simp
      exact hK _ _ (Below.refl _ _) hW rfl
    refine ⟨fun a w hW hk K hK => ?_, ?_⟩
    · obtain ⟨k0, -⟩ := hk
      have k0 : a.tmps.getD 155 undef = .pointer (some ⟨X, 1, none⟩) := k0
      have c0 := (HQ.out.below hW).at1
      go_simp
      exact hK _ _ (Below.refl _ _) hW rfl
    refine ⟨fun a w hW hk K hK => ?_, ?_⟩
    · obtain ⟨k0, k1, -⟩ := hk
      have k0 : a.tmps.getD 154 undef = .pointer (some ⟨b, 0, none⟩) := k0
      have k1 : a.tmps.getD 156 undef = .int .i64 (j : Int) := k1
      go_simp
      refine (pages_lb (j : Int) (HQ.out.below hW).1).mono ?_; rw [HI.out]; rintro r7 w9 ⟨a9, c9, rfl, hrow, hb⟩
      go_simp
      exact hK _ _ hb (hW.trans (hb.mono hW.size)) hrow.longs
    refine ⟨fun a w hW hk K hK => ?_, ?_⟩
    · obtain ⟨k0, -⟩ := hk
      have k0 : a.tmps.getD 7 undef = .pointer (some ⟨c, 0, none⟩) := k0
      go_simp
      exact hK _ _ (Below.refl _ _) hW rfl
    refine ⟨fun a w hW hk K hK => ?_, ?_⟩
    · obtain ⟨k0, -⟩ := hk
      have k0 : a.tmps.getD 158 undef = .pointer (some ⟨c, 0, none⟩) := k0
      go_simp
      exact hK _ _ (Below.refl _ _) hW rfl
    refine ⟨fun a w hW hk K hK => ?_, ?_⟩
    · obtain ⟨k0, -⟩ := hk
      have k0 : a.tmps.getD 159 undef = .pointer (some ⟨c, 0, none⟩) := k0
      go_simp
      exact hK _ _ (Below.refl _ _) hW rfl
    refine ⟨fun a w hW hk K hK => ?_, ?_⟩
    · obtain ⟨k0, -⟩ := hk
      have k0 : a.tmps.getD 160 undef = .pointer (some ⟨c, 1, none⟩) := k0
      have c0 := (HQ.out.below hW).1.cells.2.2
      go_simp
      exact hK _ _ (Below.refl _ _) hW rfl
    refine ⟨fun a w hW hk K hK => ?_, ?_⟩
    · obtain ⟨k0, -⟩ := hk
      have k0 : a.tmps.getD 9 undef = .pointer (some ⟨X, 0, none⟩) := k0
      go_simp
      exact hK _ _ (Below.refl _ _) hW rfl
    refine ⟨fun a w hW hk K hK => ?_, ?_⟩
    · obtain ⟨k0, -⟩ := hk
      have k0 : a.tmps.getD 162 undef = .pointer (some ⟨X, 1, none⟩) := k0
      have c0 := (HQ.out.below hW).at1
      go_simp
      exact hK _ _ (Below.refl _ _) hW rfl
    refine ⟨fun a w hW hk K hK => ?_, ?_⟩
    · obtain ⟨k0, k1, -⟩ := hk
      have k0 : a.tmps.getD 161 undef = .slice (some ⟨gl, 0, none⟩) 16 16 := k0
      have k1 : a.tmps.getD 163 undef = .int .i64 (j : Int) := k1
      go_simp
      exact hK _ _ (Below.refl _ _) hW rfl
    refine ⟨fun a w hW hk K hK => ?_, ?_⟩
    · obtain ⟨k0, -⟩ := hk
      have k0 : a.tmps.getD 164 undef = .pointer (some ⟨gl, j * 3, none⟩) := k0
      go_simp
      exact hK _ _ (Below.refl _ _) hW rfl
    refine ⟨fun a w hW hk K hK => ?_, ?_⟩
    · obtain ⟨k0, -⟩ := hk
      have k0 : a.tmps.getD 165 undef = .pointer (some ⟨gl, j * 3 + 1, none⟩) := k0
      have c0 := HS.out w hW
      go_simp
      exact hK _ _ (Below.refl _ _) hW rfl
    refine ⟨fun a w hW hk K hK => ?_, ?_⟩
    · obtain ⟨k0, k1, -⟩ := hk
      have k0 : (fun v w => Longs w v pl) (a.tmps.getD 157 undef) w := k0
      generalize k0e : a.tmps.getD 157 undef = uk0 at k0
      have k1 : a.tmps.getD 166 undef = .slice al pl.length cl := k1
      go_simp
      refine (sameInts_any _ _ _ pl k0 (HLL.out.below hW) HP.out).mono ?_; rintro r7 w10 ⟨rfl, mh, hw⟩
      subst hw
      go_simp
      exact hK _ _ (belowN (Below.refl _ _) _) (belowN hW _) rfl
    refine ⟨fun a w hW hk K hK => ?_, ?_⟩
    · obtain ⟨k0, -⟩ := hk
      have k0 : a.tmps.getD 167 undef = .bool true := k0
      go_simp
      exact hK _ _ (Below.refl _ _) hW rfl
    refine ⟨fun a w hW hk K hK => ?_, ?_⟩
    · obtain ⟨k0, k1, -⟩ := hk
      have k0 : a.tmps.getD 153 undef = .bool true := k0
      have k1 : a.tmps.getD 168 undef = .bool false := k1
      go_simp
      exact hK _ _ (Below.refl _ _) hW rfl
    refine ⟨fun a w hW hk K hK => ?_, ?_⟩
    · obtain ⟨k0, k1, -⟩ := hk
      have k0 : a.tmps.getD 148 undef = .bool false := k0
      have k1 : a.tmps.getD 169 undef = .bool false := k1
      go_simp
      exact hK _ _ (Below.refl _ _) hW rfl
    refine ⟨fun a w hW hk K hK => ?_, ?_⟩
    · obtain ⟨k0, -⟩ := hk
      have k0 : a.tmps.getD 170 undef = .bool false := k0
      go_simp
      exact hK _ _ (Below.refl _ _) hW rfl
    refine ⟨fun a w hW hk K hK => ?_, ?_⟩
    · obtain ⟨k0, -⟩ := hk
      have k0 : a.tmps.getD 7 undef = .pointer (some ⟨c, 0, none⟩) := k0
      go_simp
      exact hK _ _ (Below.refl _ _) hW rfl
    refine ⟨fun a w hW hk K hK => ?_, ?_⟩
    · obtain ⟨k0, -⟩ := hk
      have k0 : a.tmps.getD 9 undef = .pointer (some ⟨X, 0, none⟩) := k0
      go_simp
      exact hK _ _ (Below.refl _ _) hW rfl
    refine ⟨fun a w hW hk K hK => ?_, ?_⟩
    · obtain ⟨k0, -⟩ := hk
      have k0 : a.tmps.getD 173 undef = .pointer (some ⟨X, 1, none⟩) := k0
      have c0 := (HQ.out.below hW).at1
      go_simp
      exact hK _ _ (Below.refl _ _) hW rfl
    refine ⟨fun a w hW hk K hK => ?_, ?_⟩
    · obtain ⟨k0, k1, -⟩ := hk
      have k0 : a.tmps.getD 172 undef = .pointer (some ⟨c, 0, none⟩) := k0
      have k1 : a.tmps.getD 174 undef = .int .i64 (j : Int) := k1
      go_simp
      refine (lhas_lb (j : Int) (HQ.out.below hW).1).mono ?_; rw [HH.out]; rintro r7 w7 ⟨rfl, hw⟩
      have hw := hw.symm; subst hw
      go_simp
      exact hK _ _ (Below.refl _ _) hW rfl
    refine ⟨fun a w hW hk K hK => ?_, ?_⟩
    · obtain ⟨k0, -⟩ := hk
      have k0 : a.tmps.getD 175 undef = .bool true := k0
      go_simp
      exact hK _ _ (Below.refl _ _) hW rfl
    refine ⟨fun a w hW hk K hK => ?_, ?_⟩
    · obtain ⟨k0, -⟩ := hk
      have k0 : a.tmps.getD 176 undef = .bool false := k0
      go_simp
      exact hK _ _ (Below.refl _ _) hW rfl
    refine ⟨fun _ _ => rfl, ?_⟩
    refine ⟨fun _ _ => rfl, ?_⟩
    refine ⟨fun _ _ => rfl, ?_⟩
    refine ⟨fun _ _ => rfl, ?_⟩
    refine ⟨fun _ _ => rfl, ?_⟩
    refine ⟨fun _ _ => rfl, ?_⟩
    refine ⟨fun a w hW hk K hK => ?_, ?_⟩
    · obtain ⟨k0, k1, -⟩ := hk
      have k0 : a.tmps.getD 177 undef = .bool false := k0
      have k1 : a.tmps.getD 183 undef = undef := k1
      go_simp
      exact hK _ _ (Below.refl _ _) hW rfl
    refine ⟨fun a w hW hk K hK => ?_, ?_⟩
    · obtain ⟨k0, k1, -⟩ := hk
      have k0 : a.tmps.getD 171 undef = .bool false := k0
      have k1 : a.tmps.getD 184 undef = .bool false := k1
      go_simp
      exact hK _ _ (Below.refl _ _) hW rfl
    trivial

def r30N (b bp c cp gl X : Nat) (y : Int) (cn fn : Int) (t : Tmp) (v : Value) (w : World) : Prop :=
  v = (([(5, .pointer (some ⟨b, 0, none⟩)), (7, .pointer (some ⟨c, 0, none⟩)), (9, .pointer (some ⟨X, 0, none⟩)), (119, .pointer (some ⟨b, 0, none⟩)), (120, .pointer (some ⟨X, 1, none⟩)), (121, .int .i64 y), (122, .bool false), (123, .pointer (some ⟨c, 0, none⟩)), (124, .pointer (some ⟨X, 1, none⟩)), (125, .int .i64 y), (126, .bool false), (127, .bool false), (128, .bool false), (129, .pointer (some ⟨b, 0, none⟩)), (130, .int .i64 cn), (131, .pointer (some ⟨c, 0, none⟩)), (132, .int .i64 cn), (133, .bool false), (134, .bool false), (135, .bool false), (136, .pointer (some ⟨b, 0, none⟩)), (137, .pointer (some ⟨b, 0, none⟩)), (138, .pointer (some ⟨b, 0, none⟩)), (139, .pointer (some ⟨bp, 0, none⟩)), (140, .int .i64 fn), (141, .pointer (some ⟨c, 0, none⟩)), (142, .pointer (some ⟨c, 0, none⟩)), (143, .pointer (some ⟨c, 0, none⟩)), (144, .pointer (some ⟨cp, 0, none⟩)), (145, .int .i64 fn), (146, .bool false), (147, .bool false), (148, .bool false), (149, .pointer (some ⟨c, 0, none⟩)), (150, .pointer (some ⟨X, 1, none⟩)), (151, .int .i64 y), (152, .bool false), (153, .bool false), (154, undef), (155, undef), (156, undef), (157, undef), (158, undef), (159, undef), (160, undef), (161, undef), (162, undef), (163, undef), (164, undef), (165, undef), (166, undef), (167, undef), (168, undef), (169, .bool false), (170, .bool false), (171, .bool false), (172, .pointer (some ⟨c, 0, none⟩)), (173, .pointer (some ⟨X, 1, none⟩)), (174, .int .i64 y), (175, .bool false), (176, .bool true), (177, .bool true), (178, .pointer (some ⟨b, 0, none⟩)), (179, .pointer (some ⟨X, 1, none⟩)), (180, .int .i64 y), (181, .slice none 0 0), (182, .int .i64 0), (183, .bool false), (184, .bool false), (185, .bool false)] : List (Tmp × Value)).lookup t).getD undef

set_option maxRecDepth 100000 in
set_option maxHeartbeats 4000000 in
theorem r30_false {w1 w6 : World} {b bp c cp gl X : Nat} {e' : Est} {x y z : Int} {cn fn : Int}
    (HQ : Hid (LX w1 w6 b bp c cp gl X e' e' x y z)) (HH : Hid (e'.has y = false)) (HC : Hid (e'.count = cn)) (HF : Hid (e'.p.free = fn))
    (a : Act) (n : Nat) (hn : a.tmps.size = n) (hn' : 186 ≤ n) (h5 : a.tmps.getD 5 undef = .pointer (some ⟨b, 0, none⟩)) (h7 : a.tmps.getD 7 undef = .pointer (some ⟨c, 0, none⟩)) (h9 : a.tmps.getD 9 undef = .pointer (some ⟨X, 0, none⟩)) :
    Code.wp Try.prog ((Try.f7.body.bind (regionOf 30)).getD .skip) (fun e a' w' => e = .normal ∧ ∃ vs, a' = puts a vs (List.range' 119 67) ∧ vs 185 = .bool false ∧ Below w6.heap.size w6 w') a w6 := by
  conv => arg 2; whnf

  refine wp_region_calm (r30N b bp c cp gl X y cn fn) (fun w => Below w6.heap.size w6 w) (fun w w' => Below w.heap.size w w') (outs := [5, 7, 9]) (gs := [(9, some false), (16, some false), (29, some false), (34, some false), (52, some false), (58, some true)]) (bs := [true, true, true, true, true, true, true, true, true, true, true, true, true, true, true, true, true, true, true, true, true, true, true, true, true, true, true, true, true, true, true, true, true, true, true, false, false, false, false, false, false, false, false, false, false, false, false, false, false, false, true, true, true, true, true, true, true, true, true, true, true, true, true, true, true, true, true]) (by kernel_rfl) (n := 186) hn hn' (by kernel_rfl) ?hR ?hG (belowN (Below.refl _ _) 1) ⟨h5, h7, h9, trivial⟩ ?hA ?hend
  case hR => exact fun t v w w' _ h => h
  case hG => exact ⟨fun t ht v w _ h => by cases ht; exact h, fun t ht v w _ h => by cases ht; exact h, fun t ht v w _ h => by cases ht; exact h, fun t ht v w _ h => by cases ht; exact h, fun t ht v w _ h => by cases ht; exact h, fun t ht v w _ h => by cases ht; exact h, trivial⟩
  case hend => exact fun vs w' hW hk => ⟨rfl, vs, rfl, hk 185 (by kernel_rfl), hW⟩
  case hA =>
    refine ⟨fun a w hW hk K hK => ?_, ?_⟩
    · obtain ⟨k0, -⟩ := hk
      have k0 : a.tmps.getD 5 undef = .pointer (some ⟨b, 0, none⟩) := k0
      go_simp
      exact hK _ _ (Below.refl _ _) hW rfl
    refine ⟨fun a w hW hk K hK => ?_, ?_⟩
    · obtain ⟨k0, -⟩ := hk
      have k0 : a.tmps.getD 9 undef = .pointer (some ⟨X, 0, none⟩) := k0
      go_simp
      exact hK _ _ (Below.refl _ _) hW rfl
    refine ⟨fun a w hW hk K hK => ?_, ?_⟩
    · obtain ⟨k0, -⟩ := hk
      have k0 : a.tmps.getD 120 undef = .pointer (some ⟨X, 1, none⟩) := k0
      have c0 := (HQ.out.below hW).at1
      go_simp
      exact hK _ _ (Below.refl _ _) hW rfl
    refine ⟨fun a w hW hk K hK => ?_, ?_⟩
    · obtain ⟨k0, k1, -⟩ := hk
      have k0 : a.tmps.getD 119 undef = .pointer (some ⟨b, 0, none⟩) := k0
      have k1 : a.tmps.getD 121 undef = .int .i64 y := k1
      go_simp
      refine (has_lb y (HQ.out.below hW).1).mono ?_; rw [HH.out]; rintro r7 w7 ⟨rfl, hw⟩
      have hw := hw.symm; subst hw
      go_simp
      exact hK _ _ (Below.refl _ _) hW rfl
    refine ⟨fun a w hW hk K hK => ?_, ?_⟩
    · obtain ⟨k0, -⟩ := hk
      have k0 : a.tmps.getD 7 undef = .pointer (some ⟨c, 0, none⟩) := k0
      go_simp
      exact hK _ _ (Below.refl _ _) hW rfl
    refine ⟨fun a w hW hk K hK => ?_, ?_⟩
    · obtain ⟨k0, -⟩ := hk
      have k0 : a.tmps.getD 9 undef = .pointer (some ⟨X, 0, none⟩) := k0
      go_simp
      exact hK _ _ (Below.refl _ _) hW rfl
    refine ⟨fun a w hW hk K hK => ?_, ?_⟩
    · obtain ⟨k0, -⟩ := hk
      have k0 : a.tmps.getD 124 undef = .pointer (some ⟨X, 1, none⟩) := k0
      have c0 := (HQ.out.below hW).at1
      go_simp
      exact hK _ _ (Below.refl _ _) hW rfl
    refine ⟨fun a w hW hk K hK => ?_, ?_⟩
    · obtain ⟨k0, k1, -⟩ := hk
      have k0 : a.tmps.getD 123 undef = .pointer (some ⟨c, 0, none⟩) := k0
      have k1 : a.tmps.getD 125 undef = .int .i64 y := k1
      go_simp
      refine (lhas_lb y (HQ.out.below hW).1).mono ?_; rw [HH.out]; rintro r7 w7 ⟨rfl, hw⟩
      have hw := hw.symm; subst hw
      go_simp
      exact hK _ _ (Below.refl _ _) hW rfl
    refine ⟨fun a w hW hk K hK => ?_, ?_⟩
    · obtain ⟨k0, k1, -⟩ := hk
      have k0 : a.tmps.getD 122 undef = .bool false := k0
      have k1 : a.tmps.getD 126 undef = .bool false := k1
      go_simp
      exact hK _ _ (Below.refl _ _) hW rfl
    refine ⟨fun a w hW hk K hK => ?_, ?_⟩
    · obtain ⟨k0, -⟩ := hk
      have k0 : a.tmps.getD 127 undef = .bool false := k0
      go_simp
      exact hK _ _ (Below.refl _ _) hW rfl
    refine ⟨fun a w hW hk K hK => ?_, ?_⟩
    · obtain ⟨k0, -⟩ := hk
      have k0 : a.tmps.getD 5 undef = .pointer (some ⟨b, 0, none⟩) := k0
      go_simp
      exact hK _ _ (Below.refl _ _) hW rfl
    refine ⟨fun a w hW hk K hK => ?_, ?_⟩
    · obtain ⟨k0, -⟩ := hk
      have k0 : a.tmps.getD 129 undef = .pointer (some ⟨b, 0, none⟩) := k0
      go_simp
      refine (count_lb (HQ.out.below hW).1).mono ?_; rw [HC.out]; rintro r7 w7 ⟨rfl, hw⟩
      have hw := hw.symm; subst hw
      go_simp
      exact hK _ _ (Below.refl _ _) hW rfl
    refine ⟨fun a w hW hk K hK => ?_, ?_⟩
    · obtain ⟨k0, -⟩ := hk
      have k0 : a.tmps.getD 7 undef = .pointer (some ⟨c, 0, none⟩) := k0
      go_simp
      exact hK _ _ (Below.refl _ _) hW rfl
    refine ⟨fun a w hW hk K hK => ?_, ?_⟩
    · obtain ⟨k0, -⟩ := hk
      have k0 : a.tmps.getD 131 undef = .pointer (some ⟨c, 0, none⟩) := k0
      go_simp
      refine (lcount_lb (HQ.out.below hW).1).mono ?_; rw [HC.out]; rintro r7 w7 ⟨rfl, hw⟩
      have hw := hw.symm; subst hw
      go_simp
      exact hK _ _ (Below.refl _ _) hW rfl
    refine ⟨fun a w hW hk K hK => ?_, ?_⟩
    · obtain ⟨k0, k1, -⟩ := hk
      have k0 : a.tmps.getD 130 undef = .int .i64 cn := k0
      have k1 : a.tmps.getD 132 undef = .int .i64 cn := k1
      go_simp
      exact hK _ _ (Below.refl _ _) hW rfl
    refine ⟨fun a w hW hk K hK => ?_, ?_⟩
    · obtain ⟨k0, k1, -⟩ := hk
      have k0 : a.tmps.getD 128 undef = .bool false := k0
      have k1 : a.tmps.getD 133 undef = .bool false := k1
      go_simp
      exact hK _ _ (Below.refl _ _) hW rfl
    refine ⟨fun a w hW hk K hK => ?_, ?_⟩
    · obtain ⟨k0, -⟩ := hk
      have k0 : a.tmps.getD 134 undef = .bool false := k0
      go_simp
      exact hK _ _ (Below.refl _ _) hW rfl
    refine ⟨fun a w hW hk K hK => ?_, ?_⟩
    · obtain ⟨k0, -⟩ := hk
      have k0 : a.tmps.getD 5 undef = .pointer (some ⟨b, 0, none⟩) := k0
      go_simp
      exact hK _ _ (Below.refl _ _) hW rfl
    refine ⟨fun a w hW hk K hK => ?_, ?_⟩
    · obtain ⟨k0, -⟩ := hk
      have k0 : a.tmps.getD 136 undef = .pointer (some ⟨b, 0, none⟩) := k0
      go_simp
      exact hK _ _ (Below.refl _ _) hW rfl
    refine ⟨fun a w hW hk K hK => ?_, ?_⟩
    · obtain ⟨k0, -⟩ := hk
      have k0 : a.tmps.getD 137 undef = .pointer (some ⟨b, 0, none⟩) := k0
      go_simp
      exact hK _ _ (Below.refl _ _) hW rfl
    refine ⟨fun a w hW hk K hK => ?_, ?_⟩
    · obtain ⟨k0, -⟩ := hk
      have k0 : a.tmps.getD 138 undef = .pointer (some ⟨b, 0, none⟩) := k0
      have c0 := (HQ.out.below hW).1.cells.1
      go_simp
      exact hK _ _ (Below.refl _ _) hW rfl
    refine ⟨fun a w hW hk K hK => ?_, ?_⟩
    · obtain ⟨k0, -⟩ := hk
      have k0 : a.tmps.getD 139 undef = .pointer (some ⟨bp, 0, none⟩) := k0
      go_simp
      refine (free_lb (HQ.out.below hW).1).mono ?_; rw [HF.out]; rintro r7 w7 ⟨rfl, mf, hw⟩
      subst hw
      go_simp
      exact hK _ _ (belowN (Below.refl _ _) _) (belowN hW _) rfl
    refine ⟨fun a w hW hk K hK => ?_, ?_⟩
    · obtain ⟨k0, -⟩ := hk
      have k0 : a.tmps.getD 7 undef = .pointer (some ⟨c, 0, none⟩) := k0
      go_simp
      exact hK _ _ (Below.refl _ _) hW rfl
    refine ⟨fun a w hW hk K hK => ?_, ?_⟩
    · obtain ⟨k0, -⟩ := hk
      have k0 : a.tmps.getD 141 undef = .pointer (some ⟨c, 0, none⟩) := k0
      go_simp
      exact hK _ _ (Below.refl _ _) hW rfl
    refine ⟨fun a w hW hk K hK => ?_, ?_⟩
    · obtain ⟨k0, -⟩ := hk
      have k0 : a.tmps.getD 142 undef = .pointer (some ⟨c, 0, none⟩) := k0
      go_simp
      exact hK _ _ (Below.refl _ _) hW rfl
    refine ⟨fun a w hW hk K hK => ?_, ?_⟩
    · obtain ⟨k0, -⟩ := hk
      have k0 : a.tmps.getD 143 undef = .pointer (some ⟨c, 0, none⟩) := k0
      have c0 := (HQ.out.below hW).1.cells.2.1
      go_simp
      exact hK _ _ (Below.refl _ _) hW rfl
    refine ⟨fun a w hW hk K hK => ?_, ?_⟩
    · obtain ⟨k0, -⟩ := hk
      have k0 : a.tmps.getD 144 undef = .pointer (some ⟨cp, 0, none⟩) := k0
      go_simp
      refine (lfree_lb (HQ.out.below hW).1).mono ?_; rw [HF.out]; rintro r7 w7 ⟨rfl, mf, hw⟩
      subst hw
      go_simp
      exact hK _ _ (belowN (Below.refl _ _) _) (belowN hW _) rfl
    refine ⟨fun a w hW hk K hK => ?_, ?_⟩
    · obtain ⟨k0, k1, -⟩ := hk
      have k0 : a.tmps.getD 140 undef = .int .i64 fn := k0
      have k1 : a.tmps.getD 145 undef = .int .i64 fn := k1
      go_simp
      exact hK _ _ (Below.refl _ _) hW rfl
    refine ⟨fun a w hW hk K hK => ?_, ?_⟩
    · obtain ⟨k0, k1, -⟩ := hk
      have k0 : a.tmps.getD 135 undef = .bool false := k0
      have k1 : a.tmps.getD 146 undef = .bool false := k1
      go_simp
      exact hK _ _ (Below.refl _ _) hW rfl
    refine ⟨fun a w hW hk K hK => ?_, ?_⟩
    · obtain ⟨k0, -⟩ := hk
      have k0 : a.tmps.getD 147 undef = .bool false := k0
      go_simp
      exact hK _ _ (Below.refl _ _) hW rfl
    refine ⟨fun a w hW hk K hK => ?_, ?_⟩
    · obtain ⟨k0, -⟩ := hk
      have k0 : a.tmps.getD 7 undef = .pointer (some ⟨c, 0, none⟩) := k0
      go_simp
      exact hK _ _ (Below.refl _ _) hW rfl
    refine ⟨fun a w hW hk K hK => ?_, ?_⟩
    · obtain ⟨k0, -⟩ := hk
      have k0 : a.tmps.getD 9 undef = .pointer (some ⟨X, 0, none⟩) := k0
      go_simp
      exact hK _ _ (Below.refl _ _) hW rfl
    refine ⟨fun a w hW hk K hK => ?_, ?_⟩
    · obtain ⟨k0, -⟩ := hk
      have k0 : a.tmps.getD 150 undef = .pointer (some ⟨X, 1, none⟩) := k0
      have c0 := (HQ.out.below hW).at1
      go_simp
      exact hK _ _ (Below.refl _ _) hW rfl
    refine ⟨fun a w hW hk K hK => ?_, ?_⟩
    · obtain ⟨k0, k1, -⟩ := hk
      have k0 : a.tmps.getD 149 undef = .pointer (some ⟨c, 0, none⟩) := k0
      have k1 : a.tmps.getD 151 undef = .int .i64 y := k1
      go_simp
      refine (lhas_lb y (HQ.out.below hW).1).mono ?_; rw [HH.out]; rintro r7 w7 ⟨rfl, hw⟩
      have hw := hw.symm; subst hw
      go_simp
      exact hK _ _ (Below.refl _ _) hW rfl
    refine ⟨fun a w hW hk K hK => ?_, ?_⟩
    · obtain ⟨k0, -⟩ := hk
      have k0 : a.tmps.getD 152 undef = .bool false := k0
      go_simp
      exact hK _ _ (Below.refl _ _) hW rfl
    refine ⟨fun _ _ => rfl, ?_⟩
    refine ⟨fun _ _ => rfl, ?_⟩
    refine ⟨fun _ _ => rfl, ?_⟩
    refine ⟨fun _ _ => rfl, ?_⟩
    refine ⟨fun _ _ => rfl, ?_⟩
    refine ⟨fun _ _ => rfl, ?_⟩
    refine ⟨fun _ _ => rfl, ?_⟩
    refine ⟨fun _ _ => rfl, ?_⟩
    refine ⟨fun _ _ => rfl, ?_⟩
    refine ⟨fun _ _ => rfl, ?_⟩
    refine ⟨fun _ _ => rfl, ?_⟩
    refine ⟨fun _ _ => rfl, ?_⟩
    refine ⟨fun _ _ => rfl, ?_⟩
    refine ⟨fun _ _ => rfl, ?_⟩
    refine ⟨fun _ _ => rfl, ?_⟩
    refine ⟨fun a w hW hk K hK => ?_, ?_⟩
    · obtain ⟨k0, k1, -⟩ := hk
      have k0 : a.tmps.getD 153 undef = .bool false := k0
      have k1 : a.tmps.getD 168 undef = undef := k1
      go_simp
      exact hK _ _ (Below.refl _ _) hW rfl
    refine ⟨fun a w hW hk K hK => ?_, ?_⟩
    · obtain ⟨k0, k1, -⟩ := hk
      have k0 : a.tmps.getD 148 undef = .bool false := k0
      have k1 : a.tmps.getD 169 undef = .bool false := k1
      go_simp
      exact hK _ _ (Below.refl _ _) hW rfl
    refine ⟨fun a w hW hk K hK => ?_, ?_⟩
    · obtain ⟨k0, -⟩ := hk
      have k0 : a.tmps.getD 170 undef = .bool false := k0
      go_simp
      exact hK _ _ (Below.refl _ _) hW rfl
    refine ⟨fun a w hW hk K hK => ?_, ?_⟩
    · obtain ⟨k0, -⟩ := hk
      have k0 : a.tmps.getD 7 undef = .pointer (some ⟨c, 0, none⟩) := k0
      go_simp
      exact hK _ _ (Below.refl _ _) hW rfl
    refine ⟨fun a w hW hk K hK => ?_, ?_⟩
    · obtain ⟨k0, -⟩ := hk
      have k0 : a.tmps.getD 9 undef = .pointer (some ⟨X, 0, none⟩) := k0
      go_simp
      exact hK _ _ (Below.refl _ _) hW rfl
    refine ⟨fun a w hW hk K hK => ?_, ?_⟩
    · obtain ⟨k0, -⟩ := hk
      have k0 : a.tmps.getD 173 undef = .pointer (some ⟨X, 1, none⟩) := k0
      have c0 := (HQ.out.below hW).at1
      go_simp
      exact hK _ _ (Below.refl _ _) hW rfl
    refine ⟨fun a w hW hk K hK => ?_, ?_⟩
    · obtain ⟨k0, k1, -⟩ := hk
      have k0 : a.tmps.getD 172 undef = .pointer (some ⟨c, 0, none⟩) := k0
      have k1 : a.tmps.getD 174 undef = .int .i64 y := k1
      go_simp
      refine (lhas_lb y (HQ.out.below hW).1).mono ?_; rw [HH.out]; rintro r7 w7 ⟨rfl, hw⟩
      have hw := hw.symm; subst hw
      go_simp
      exact hK _ _ (Below.refl _ _) hW rfl
    refine ⟨fun a w hW hk K hK => ?_, ?_⟩
    · obtain ⟨k0, -⟩ := hk
      have k0 : a.tmps.getD 175 undef = .bool false := k0
      go_simp
      exact hK _ _ (Below.refl _ _) hW rfl
    refine ⟨fun a w hW hk K hK => ?_, ?_⟩
    · obtain ⟨k0, -⟩ := hk
      have k0 : a.tmps.getD 176 undef = .bool true := k0
      go_simp
      exact hK _ _ (Below.refl _ _) hW rfl
    refine ⟨fun a w hW hk K hK => ?_, ?_⟩
    · obtain ⟨k0, -⟩ := hk
      have k0 : a.tmps.getD 5 undef = .pointer (some ⟨b, 0, none⟩) := k0
      go_simp
      exact hK _ _ (Below.refl _ _) hW rfl
    refine ⟨fun a w hW hk K hK => ?_, ?_⟩
    · obtain ⟨k0, -⟩ := hk
      have k0 : a.tmps.getD 9 undef = .pointer (some ⟨X, 0, none⟩) := k0
      go_simp
      exact hK _ _ (Below.refl _ _) hW rfl
    refine ⟨fun a w hW hk K hK => ?_, ?_⟩
    · obtain ⟨k0, -⟩ := hk
      have k0 : a.tmps.getD 179 undef = .pointer (some ⟨X, 1, none⟩) := k0
      have c0 := (HQ.out.below hW).at1
      go_simp
      exact hK _ _ (Below.refl _ _) hW rfl
    refine ⟨fun a w hW hk K hK => ?_, ?_⟩
    · obtain ⟨k0, k1, -⟩ := hk
      have k0 : a.tmps.getD 178 undef = .pointer (some ⟨b, 0, none⟩) := k0
      have k1 : a.tmps.getD 180 undef = .int .i64 y := k1
      go_simp
      refine (pages_none y (HQ.out.below hW).1 HH.out).mono ?_; rintro r7 w7 ⟨rfl, hw⟩
      have hw := hw.symm; subst hw
      go_simp
      exact hK _ _ (Below.refl _ _) hW rfl
    refine ⟨fun a w hW hk K hK => ?_, ?_⟩
    · obtain ⟨k0, -⟩ := hk
      have k0 : a.tmps.getD 181 undef = .slice none 0 0 := k0
      go_simp
      exact hK _ _ (Below.refl _ _) hW rfl
    refine ⟨fun a w hW hk K hK => ?_, ?_⟩
    · obtain ⟨k0, -⟩ := hk
      have k0 : a.tmps.getD 182 undef = .int .i64 0 := k0
      go_simp
      exact hK _ _ (Below.refl _ _) hW rfl
    refine ⟨fun a w hW hk K hK => ?_, ?_⟩
    · obtain ⟨k0, k1, -⟩ := hk
      have k0 : a.tmps.getD 177 undef = .bool true := k0
      have k1 : a.tmps.getD 183 undef = .bool false := k1
      go_simp
      exact hK _ _ (Below.refl _ _) hW rfl
    refine ⟨fun a w hW hk K hK => ?_, ?_⟩
    · obtain ⟨k0, k1, -⟩ := hk
      have k0 : a.tmps.getD 171 undef = .bool false := k0
      have k1 : a.tmps.getD 184 undef = .bool false := k1
      go_simp
      exact hK _ _ (Below.refl _ _) hW rfl
    trivial

def r32E (b bp c cp gw nw : Nat) (xs : List Int) (t : Tmp) (v : Value) (w : World) : Prop :=
  match ([(190, fun v w => Longs w v xs)] : List (Tmp × (Value → World → Prop))).lookup t with
  | some p => p v w
  | none => v = (([(5, .pointer (some ⟨b, 0, none⟩)), (7, .pointer (some ⟨c, 0, none⟩)), (186, .pointer (some ⟨b, 0, none⟩)), (187, .pointer (some ⟨b, 0, none⟩)), (188, .pointer (some ⟨b, 0, none⟩)), (189, .pointer (some ⟨bp, 0, none⟩)), (191, .pointer (some ⟨c, 0, none⟩)), (192, .pointer (some ⟨c, 0, none⟩)), (193, .pointer (some ⟨c, 0, none⟩)), (194, .pointer (some ⟨cp, 0, none⟩)), (195, .pointer (some ⟨cp, 0, none⟩)), (196, .pointer (some ⟨cp, 0, none⟩)), (197, .slice (some ⟨gw, 0, none⟩) nw nw), (198, .bool true), (4, .bool true)] : List (Tmp × Value)).lookup t).getD undef

set_option maxRecDepth 100000 in
set_option maxHeartbeats 4000000 in
theorem r32_true {w1 wr : World} {b bp c cp gl gw nw : Nat} {e : Est} {xs : List Int}
    (HR : Hid (LBoth w1 wr b bp c cp gl (fun _ => False) e e)) (HX : Hid ((List.range (16 * e.p.pages)).map e.p.ws = xs)) (HW : Hid (Longs wr (.slice (some ⟨gw, 0, none⟩) nw nw) xs)) (HL : Hid (xs.length ≤ 1000000))
    (HS : Hid (∀ wx, Below wr.heap.size wr wx → wx.cell? ⟨cp, 0, none⟩ = some (.slice (some ⟨gw, 0, none⟩) nw nw)))
    (a : Act) (n : Nat) (hn : a.tmps.size = n) (hn' : 199 ≤ n) (h5 : a.tmps.getD 5 undef = .pointer (some ⟨b, 0, none⟩)) (h7 : a.tmps.getD 7 undef = .pointer (some ⟨c, 0, none⟩)) :
    Code.wp Try.prog ((Try.f7.body.bind (regionOf 32)).getD .skip) (fun e a' w' => e = .normal ∧ ∃ vs, a' = puts a vs (List.range' 186 13 ++ [4]) ∧ vs 4 = .bool true ∧ Below wr.heap.size wr w') a wr := by
  conv => arg 2; whnf

  refine wp_region_calm (r32E b bp c cp gw nw xs) (fun w => Below wr.heap.size wr w) (fun w w' => Below w.heap.size w w') (outs := [5, 7]) (gs := []) (bs := [true, true, true, true, true, true, true, true, true, true, true, true, true, true]) (by kernel_rfl) (n := 199) hn hn' (by kernel_rfl) ?hR trivial (belowN (Below.refl _ _) 1) ⟨h5, h7, trivial⟩ ?hA ?hend
  case hR =>
    intro t v w w' hr h
    unfold r32E at h ⊢
    split at h
    · rename_i p hp
      simp only [List.lookup_cons, List.lookup_nil] at hp
      split at hp
      · cases hp; exact Longs.below h hr
      · cases hp
    · exact h
  case hend => exact fun vs w' hW hk => ⟨rfl, vs, rfl, hk 4 (by kernel_rfl), hW⟩
  case hA =>
    refine ⟨fun a w hW hk K hK => ?_, ?_⟩
    · obtain ⟨k0, -⟩ := hk
      have k0 : a.tmps.getD 5 undef = .pointer (some ⟨b, 0, none⟩) := k0
      go_simp
      exact hK _ _ (Below.refl _ _) hW rfl
    refine ⟨fun a w hW hk K hK => ?_, ?_⟩
    · obtain ⟨k0, -⟩ := hk
      have k0 : a.tmps.getD 186 undef = .pointer (some ⟨b, 0, none⟩) := k0
      go_simp
      exact hK _ _ (Below.refl _ _) hW rfl
    refine ⟨fun a w hW hk K hK => ?_, ?_⟩
    · obtain ⟨k0, -⟩ := hk
      have k0 : a.tmps.getD 187 undef = .pointer (some ⟨b, 0, none⟩) := k0
      go_simp
      exact hK _ _ (Below.refl _ _) hW rfl
    refine ⟨fun a w hW hk K hK => ?_, ?_⟩
    · obtain ⟨k0, -⟩ := hk
      have k0 : a.tmps.getD 188 undef = .pointer (some ⟨b, 0, none⟩) := k0
      have c0 := (HR.out.below hW).cells.1
      go_simp
      exact hK _ _ (Below.refl _ _) hW rfl
    refine ⟨fun a w hW hk K hK => ?_, ?_⟩
    · obtain ⟨k0, -⟩ := hk
      have k0 : a.tmps.getD 189 undef = .pointer (some ⟨bp, 0, none⟩) := k0
      go_simp
      refine (words_lb (HR.out.below hW)).mono ?_; rintro r7 w9 ⟨v9, rfl, hv, hb⟩; rw [HX.out] at hv
      go_simp
      exact hK _ _ hb (hW.trans (hb.mono hW.size)) hv
    refine ⟨fun a w hW hk K hK => ?_, ?_⟩
    · obtain ⟨k0, -⟩ := hk
      have k0 : a.tmps.getD 7 undef = .pointer (some ⟨c, 0, none⟩) := k0
      go_simp
      exact hK _ _ (Below.refl _ _) hW rfl
    refine ⟨fun a w hW hk K hK => ?_, ?_⟩
    · obtain ⟨k0, -⟩ := hk
      have k0 : a.tmps.getD 191 undef = .pointer (some ⟨c, 0, none⟩) := k0
      go_simp
      exact hK _ _ (Below.refl _ _) hW rfl
    refine ⟨fun a w hW hk K hK => ?_, ?_⟩
    · obtain ⟨k0, -⟩ := hk
      have k0 : a.tmps.getD 192 undef = .pointer (some ⟨c, 0, none⟩) := k0
      go_simp
      exact hK _ _ (Below.refl _ _) hW rfl
    refine ⟨fun a w hW hk K hK => ?_, ?_⟩
    · obtain ⟨k0, -⟩ := hk
      have k0 : a.tmps.getD 193 undef = .pointer (some ⟨c, 0, none⟩) := k0
      have c0 := (HR.out.below hW).cells.2.1
      go_simp
      exact hK _ _ (Below.refl _ _) hW rfl
    refine ⟨fun a w hW hk K hK => ?_, ?_⟩
    · obtain ⟨k0, -⟩ := hk
      have k0 : a.tmps.getD 194 undef = .pointer (some ⟨cp, 0, none⟩) := k0
      go_simp
      exact hK _ _ (Below.refl _ _) hW rfl
    refine ⟨fun a w hW hk K hK => ?_, ?_⟩
    · obtain ⟨k0, -⟩ := hk
      have k0 : a.tmps.getD 195 undef = .pointer (some ⟨cp, 0, none⟩) := k0
      go_simp
      exact hK _ _ (Below.refl _ _) hW rfl
    refine ⟨fun a w hW hk K hK => ?_, ?_⟩
    · obtain ⟨k0, -⟩ := hk
      have k0 : a.tmps.getD 196 undef = .pointer (some ⟨cp, 0, none⟩) := k0
      have c0 := HS.out w hW
      go_simp
      exact hK _ _ (Below.refl _ _) hW rfl
    refine ⟨fun a w hW hk K hK => ?_, ?_⟩
    · obtain ⟨k0, k1, -⟩ := hk
      have k0 : (fun v w => Longs w v xs) (a.tmps.getD 190 undef) w := k0
      generalize k0e : a.tmps.getD 190 undef = uk0 at k0
      have k1 : a.tmps.getD 197 undef = .slice (some ⟨gw, 0, none⟩) nw nw := k1
      go_simp
      refine (same_any _ _ _ _ k0 (HW.out.below hW) HL.out).mono ?_; rintro r7 w10 ⟨rfl, mh, hw⟩
      subst hw
      go_simp
      exact hK _ _ (belowN (Below.refl _ _) _) (belowN hW _) rfl
    refine ⟨fun a w hW hk K hK => ?_, ?_⟩
    · obtain ⟨k0, -⟩ := hk
      have k0 : a.tmps.getD 198 undef = .bool true := k0
      go_simp
      exact hK _ _ (Below.refl _ _) hW rfl
    trivial
end Go.Proofs.Ytphindejlinleaa
