/-
  Two tests of HeldDoes: regions that draw their order and make memory; both say no.
-/
import Derived.Test.YtcenkidhaoncgadCalm
import Derived.Test.YtcenkidhaoncgadHlRef
namespace Go.Proofs.Ytcenkidhaoncgad
open Go.ChangeShapes Go.WideShapes Go.ChangeAt Go.RowKit
set_option linter.unusedVariables false

def hRegionOf (i : Nat) : Code → Option Code
  | .region k ops d => if k = i then some (.region k ops d) else none
  | .loop c => hRegionOf i c
  | .seq a b => match hRegionOf i a with
    | some c => some c
    | none => hRegionOf i b
  | .block _ c => hRegionOf i c
  | .scope c => hRegionOf i c
  | .cond _ a b => match hRegionOf i a with
    | some c => some c
    | none => hRegionOf i b
  | _ => none

/-- A list of numbers, as a value. -/
def IntsV (w : World) (l : List Int) (v : Value) : Prop := ∃ a c, v = .slice a l.length c ∧ intsL.In w (fun _ => True) l [.slice a l.length c]
theorem IntsV.below {w w' : World} {l : List Int} {v : Value} (h : IntsV w l v) (k : Below w.heap.size w w') : IntsV w' l v := by
  obtain ⟨a, c, e, h⟩ := h
  exact ⟨a, c, e, Lay.below h k⟩
theorem IntsOut.v {w w' : World} {l : List Int} {e : Ending} (h : IntsOut w l e w') : ∃ v, e = .returned v ∧ IntsV w' l v ∧ Below w.heap.size w w' := by
  obtain ⟨a, c, e, h, b⟩ := h
  exact ⟨_, e, ⟨a, c, rfl, Lay.mono h (fun _ _ _ => trivial)⟩, b⟩
theorem sameInts_v {w : World} {l : List Int} {v u : Value} (hl : l.length ≤ 100000) (hv : IntsV w l v) (hu : IntsV w l u) :
    Calls Try.prog 14 #[v, u] w fun e w' => e = .returned (.bool true) ∧ Below w.heap.size w w' := by
  obtain ⟨a, c, rfl, h⟩ := hv
  obtain ⟨b, d, rfl, k⟩ := hu
  exact sameInts_eq rfl hl h k
theorem held_pass_v {w : World} {b : Nat} {L : List Bool} {l : List Int} {v : Value} (hl : l.length ≤ 100000) (hv : IntsV w l v) (h : HeldAt w b L) :
    Calls Try.prog 10 #[.pointer (some ⟨b, 0, none⟩), v] w fun e w' => e = .returned (.int .i64 (hPass L [] l)) ∧ Below w.heap.size w w' := by
  obtain ⟨a, c, rfl, k⟩ := hv
  exact held_pass rfl hl k h

/-- What the law's walk knows between two of its tests: both objects, the step's box. -/
structure HX (w : World) (b c X : Nat) (O : Nat → Prop) (L : List Bool) (x y : Int) (va : Option Addr) (N vc : Nat) : Prop where
  held : HeldAt w b L
  holds : HoldsAt w c O L
  box : w.heap[X]? = some (.cells #[.int .i64 x, .int .i64 y, .slice va N vc] 30 (0, 0))
theorem HX.below {w w' : World} {b c X : Nat} {O : Nat → Prop} {L : List Bool} {x y : Int} {va : Option Addr} {N vc : Nat} (h : HX w b c X O L x y va N vc) (k : Below w.heap.size w w') : HX w' b c X O L x y va N vc :=
  ⟨h.held.below k, h.holds.below k, (k.block X (lt_of_block h.box)).trans h.box⟩

def h29E (b c X n : Nat) (y : Int) (q : Bool) (ra : Option Addr) (rc : Nat) (hl : List Int) (t : Tmp) (v : Value) (w : World) : Prop :=
  match ([(114, fun v w => IntsV w hl v), (116, fun v w => IntsV w hl v)] : List (Tmp × (Value → World → Prop))).lookup t with
  | some p => p v w
  | none => v = (([(5, .pointer (some ⟨b, 0, none⟩)), (6, .pointer (some ⟨c, 0, none⟩)), (8, .pointer (some ⟨X, 0, none⟩)), (93, .pointer (some ⟨b, 0, none⟩)), (94, .pointer (some ⟨X, 1, none⟩)), (95, .int .i64 y), (96, .bool q), (97, .pointer (some ⟨c, 0, none⟩)), (98, .pointer (some ⟨X, 1, none⟩)), (99, .int .i64 y), (100, .bool q), (101, .bool false), (102, .bool false), (103, .pointer (some ⟨b, 0, none⟩)), (104, .int .i64 (n : Int)), (105, .pointer (some ⟨c, 0, none⟩)), (106, .pointer (some ⟨c, 0, none⟩)), (107, .pointer (some ⟨c, 0, none⟩)), (108, .slice ra n rc), (109, .int .i64 (n : Int)), (110, .bool false), (111, .bool false), (112, .bool false), (113, .pointer (some ⟨b, 0, none⟩)), (115, .pointer (some ⟨c, 0, none⟩)), (117, .bool true), (118, .bool false), (119, .bool false)] : List (Tmp × Value)).lookup t).getD undef

set_option maxRecDepth 100000 in
set_option maxHeartbeats 4000000 in
theorem h29_no {w6 : World} {b c X n : Nat} {O : Nat → Prop} {L : List Bool} {x y : Int} {va : Option Addr} {N vc : Nat} {q : Bool} {ra : Option Addr} {rc : Nat} {hl : List Int}
    (HQ : Hid (HX w6 b c X O L x y va N vc)) (HH : Hid (hHas L y = q)) (HN : Hid (L.length = n)) (HL : Hid (hList L = hl)) (HM : Hid (hl.length ≤ 100000)) (HS : Hid (∀ wx, Below w6.heap.size w6 wx → wx.cell? ⟨c, 0, none⟩ = some (.slice ra n rc)))
    (a : Act) (m : Nat) (hn : a.tmps.size = m) (hn' : 120 ≤ m) (h5 : a.tmps.getD 5 undef = .pointer (some ⟨b, 0, none⟩)) (h6 : a.tmps.getD 6 undef = .pointer (some ⟨c, 0, none⟩)) (h8 : a.tmps.getD 8 undef = .pointer (some ⟨X, 0, none⟩)) :
    Code.wp Try.prog ((Try.f3.body.bind (hRegionOf 29)).getD .skip) (fun e a' w' => e = .normal ∧ ∃ vs, a' = puts a vs (List.range' 93 27) ∧ vs 119 = .bool false ∧ Below w6.heap.size w6 w') a w6 := by
  conv => arg 2; whnf

  refine wp_region_calm (h29E b c X n y q ra rc hl) (fun w => Below w6.heap.size w6 w) (fun w w' => Below w.heap.size w w') (outs := [5, 6, 8]) (gs := [(9, some false), (19, some false)]) (bs := [true, true, true, true, true, true, true, true, true, true, true, true, true, true, true, true, true, true, true, true, true, true, true, true, true, true, true]) (by kernel_rfl) (n := 120) hn hn' (by kernel_rfl) ?hR ?hG (hbelowN (Below.refl _ _) 1) ⟨h5, h6, h8, trivial⟩ ?hA ?hend
  case hR =>
    intro t v w w' hr h
    unfold h29E at h ⊢
    split at h
    · rename_i p hp
      simp only [List.lookup_cons, List.lookup_nil] at hp
      split at hp
      · cases hp; exact IntsV.below h hr
      · split at hp
        · cases hp; exact IntsV.below h hr
        · cases hp
    · exact h
  case hG => exact ⟨fun t ht v w _ h => by cases ht; exact h, fun t ht v w _ h => by cases ht; exact h, trivial⟩
  case hend => exact fun vs w' hW hk => ⟨rfl, vs, rfl, hk 119 (by kernel_rfl), hW⟩
  case hA =>
    refine ⟨fun a w hW hk K hK => ?_, ?_⟩
    · obtain ⟨k0, -⟩ := hk
      have k0 : a.tmps.getD 5 undef = .pointer (some ⟨b, 0, none⟩) := k0
      go_simp
      exact hK _ _ (Below.refl _ _) hW rfl
    refine ⟨fun a w hW hk K hK => ?_, ?_⟩
    · obtain ⟨k0, -⟩ := hk
      have k0 : a.tmps.getD 8 undef = .pointer (some ⟨X, 0, none⟩) := k0
      go_simp
      exact hK _ _ (Below.refl _ _) hW rfl
    refine ⟨fun a w hW hk K hK => ?_, ?_⟩
    · obtain ⟨k0, -⟩ := hk
      have k0 : a.tmps.getD 94 undef = .pointer (some ⟨X, 1, none⟩) := k0
      have c0 := cellOf (HQ.out.below hW).box 1 _ rfl
      go_simp
      exact hK _ _ (Below.refl _ _) hW rfl
    refine ⟨fun a w hW hk K hK => ?_, ?_⟩
    · obtain ⟨k0, k1, -⟩ := hk
      have k0 : a.tmps.getD 93 undef = .pointer (some ⟨b, 0, none⟩) := k0
      have k1 : a.tmps.getD 95 undef = .int .i64 y := k1
      go_simp
      refine (held_has y (HQ.out.below hW).held).mono ?_; rw [HH.out]; rintro r7 w7 ⟨rfl, hw⟩
      have hw := hw.symm; subst hw
      go_simp
      exact hK _ _ (Below.refl _ _) hW rfl
    refine ⟨fun a w hW hk K hK => ?_, ?_⟩
    · obtain ⟨k0, -⟩ := hk
      have k0 : a.tmps.getD 6 undef = .pointer (some ⟨c, 0, none⟩) := k0
      go_simp
      exact hK _ _ (Below.refl _ _) hW rfl
    refine ⟨fun a w hW hk K hK => ?_, ?_⟩
    · obtain ⟨k0, -⟩ := hk
      have k0 : a.tmps.getD 8 undef = .pointer (some ⟨X, 0, none⟩) := k0
      go_simp
      exact hK _ _ (Below.refl _ _) hW rfl
    refine ⟨fun a w hW hk K hK => ?_, ?_⟩
    · obtain ⟨k0, -⟩ := hk
      have k0 : a.tmps.getD 98 undef = .pointer (some ⟨X, 1, none⟩) := k0
      have c0 := cellOf (HQ.out.below hW).box 1 _ rfl
      go_simp
      exact hK _ _ (Below.refl _ _) hW rfl
    refine ⟨fun a w hW hk K hK => ?_, ?_⟩
    · obtain ⟨k0, k1, -⟩ := hk
      have k0 : a.tmps.getD 97 undef = .pointer (some ⟨c, 0, none⟩) := k0
      have k1 : a.tmps.getD 99 undef = .int .i64 y := k1
      go_simp
      refine (holds_has y (Nat.le_trans (HQ.out.below hW).held.1 (by decide)) (HQ.out.below hW).holds).mono ?_; rw [HH.out]; rintro r7 w7 ⟨rfl, hw⟩
      have hw := hw.symm; subst hw
      go_simp
      exact hK _ _ (Below.refl _ _) hW rfl
    refine ⟨fun a w hW hk K hK => ?_, ?_⟩
    · obtain ⟨k0, k1, -⟩ := hk
      have k0 : a.tmps.getD 96 undef = .bool q := k0
      have k1 : a.tmps.getD 100 undef = .bool q := k1
      go_simp
      exact hK _ _ (Below.refl _ _) hW rfl
    refine ⟨fun a w hW hk K hK => ?_, ?_⟩
    · obtain ⟨k0, -⟩ := hk
      have k0 : a.tmps.getD 101 undef = .bool false := k0
      go_simp
      exact hK _ _ (Below.refl _ _) hW rfl
    refine ⟨fun a w hW hk K hK => ?_, ?_⟩
    · obtain ⟨k0, -⟩ := hk
      have k0 : a.tmps.getD 5 undef = .pointer (some ⟨b, 0, none⟩) := k0
      go_simp
      exact hK _ _ (Below.refl _ _) hW rfl
    refine ⟨fun a w hW hk K hK => ?_, ?_⟩
    · obtain ⟨k0, -⟩ := hk
      have k0 : a.tmps.getD 103 undef = .pointer (some ⟨b, 0, none⟩) := k0
      go_simp
      refine (held_len (HQ.out.below hW).held).mono ?_; rw [HN.out]; rintro r7 w7 ⟨rfl, hw⟩
      have hw := hw.symm; subst hw
      go_simp
      exact hK _ _ (Below.refl _ _) hW rfl
    refine ⟨fun a w hW hk K hK => ?_, ?_⟩
    · obtain ⟨k0, -⟩ := hk
      have k0 : a.tmps.getD 6 undef = .pointer (some ⟨c, 0, none⟩) := k0
      go_simp
      exact hK _ _ (Below.refl _ _) hW rfl
    refine ⟨fun a w hW hk K hK => ?_, ?_⟩
    · obtain ⟨k0, -⟩ := hk
      have k0 : a.tmps.getD 105 undef = .pointer (some ⟨c, 0, none⟩) := k0
      go_simp
      exact hK _ _ (Below.refl _ _) hW rfl
    refine ⟨fun a w hW hk K hK => ?_, ?_⟩
    · obtain ⟨k0, -⟩ := hk
      have k0 : a.tmps.getD 106 undef = .pointer (some ⟨c, 0, none⟩) := k0
      go_simp
      exact hK _ _ (Below.refl _ _) hW rfl
    refine ⟨fun a w hW hk K hK => ?_, ?_⟩
    · obtain ⟨k0, -⟩ := hk
      have k0 : a.tmps.getD 107 undef = .pointer (some ⟨c, 0, none⟩) := k0
      have c0 := HS.out w hW
      go_simp
      exact hK _ _ (Below.refl _ _) hW rfl
    refine ⟨fun a w hW hk K hK => ?_, ?_⟩
    · obtain ⟨k0, -⟩ := hk
      have k0 : a.tmps.getD 108 undef = .slice ra n rc := k0
      go_simp
      exact hK _ _ (Below.refl _ _) hW rfl
    refine ⟨fun a w hW hk K hK => ?_, ?_⟩
    · obtain ⟨k0, k1, -⟩ := hk
      have k0 : a.tmps.getD 104 undef = .int .i64 (n : Int) := k0
      have k1 : a.tmps.getD 109 undef = .int .i64 (n : Int) := k1
      go_simp
      exact hK _ _ (Below.refl _ _) hW rfl
    refine ⟨fun a w hW hk K hK => ?_, ?_⟩
    · obtain ⟨k0, k1, -⟩ := hk
      have k0 : a.tmps.getD 102 undef = .bool false := k0
      have k1 : a.tmps.getD 110 undef = .bool false := k1
      go_simp
      exact hK _ _ (Below.refl _ _) hW rfl
    refine ⟨fun a w hW hk K hK => ?_, ?_⟩
    · obtain ⟨k0, -⟩ := hk
      have k0 : a.tmps.getD 111 undef = .bool false := k0
      go_simp
      exact hK _ _ (Below.refl _ _) hW rfl
    refine ⟨fun a w hW hk K hK => ?_, ?_⟩
    · obtain ⟨k0, -⟩ := hk
      have k0 : a.tmps.getD 5 undef = .pointer (some ⟨b, 0, none⟩) := k0
      go_simp
      exact hK _ _ (Below.refl _ _) hW rfl
    refine ⟨fun a w hW hk K hK => ?_, ?_⟩
    · obtain ⟨k0, -⟩ := hk
      have k0 : a.tmps.getD 113 undef = .pointer (some ⟨b, 0, none⟩) := k0
      go_simp
      refine (held_list (HQ.out.below hW).held).mono ?_; rw [HL.out]; intro r7 w7 hO; obtain ⟨v7, rfl, hv7, b7⟩ := hO.v
      go_simp
      exact hK _ _ b7 (hW.trans (b7.mono hW.size)) hv7
    refine ⟨fun a w hW hk K hK => ?_, ?_⟩
    · obtain ⟨k0, -⟩ := hk
      have k0 : a.tmps.getD 6 undef = .pointer (some ⟨c, 0, none⟩) := k0
      go_simp
      exact hK _ _ (Below.refl _ _) hW rfl
    refine ⟨fun a w hW hk K hK => ?_, ?_⟩
    · obtain ⟨k0, -⟩ := hk
      have k0 : a.tmps.getD 115 undef = .pointer (some ⟨c, 0, none⟩) := k0
      go_simp
      refine (holds_list (Nat.le_trans (HQ.out.below hW).held.1 (by decide)) (HQ.out.below hW).holds).mono ?_; rw [HL.out]; intro r7 w7 hO; obtain ⟨v7, rfl, hv7, b7⟩ := hO.v
      go_simp
      exact hK _ _ b7 (hW.trans (b7.mono hW.size)) hv7
    refine ⟨fun a w hW hk K hK => ?_, ?_⟩
    · obtain ⟨k0, k1, -⟩ := hk
      have k0 : (fun v w => IntsV w hl v) (a.tmps.getD 114 undef) w := k0
      generalize k0e : a.tmps.getD 114 undef = uk0 at k0
      have k1 : (fun v w => IntsV w hl v) (a.tmps.getD 116 undef) w := k1
      generalize k1e : a.tmps.getD 116 undef = uk1 at k1
      go_simp
      refine (sameInts_v HM.out k0 k1).mono ?_; rintro r7 w7 ⟨rfl, b7⟩
      go_simp
      exact hK _ _ b7 (hW.trans (b7.mono hW.size)) rfl
    refine ⟨fun a w hW hk K hK => ?_, ?_⟩
    · obtain ⟨k0, -⟩ := hk
      have k0 : a.tmps.getD 117 undef = .bool true := k0
      go_simp
      exact hK _ _ (Below.refl _ _) hW rfl
    refine ⟨fun a w hW hk K hK => ?_, ?_⟩
    · obtain ⟨k0, k1, -⟩ := hk
      have k0 : a.tmps.getD 112 undef = .bool false := k0
      have k1 : a.tmps.getD 118 undef = .bool false := k1
      go_simp
      exact hK _ _ (Below.refl _ _) hW rfl
    trivial

def h27E (b c X : Nat) (p : Int) (va : Option Addr) (N vc : Nat) (t : Tmp) (v : Value) (w : World) : Prop :=
  v = (([(5, .pointer (some ⟨b, 0, none⟩)), (6, .pointer (some ⟨c, 0, none⟩)), (8, .pointer (some ⟨X, 0, none⟩)), (84, .pointer (some ⟨b, 0, none⟩)), (85, .pointer (some ⟨X, 2, none⟩)), (86, .slice va N vc), (87, .int .i64 p), (88, .pointer (some ⟨c, 0, none⟩)), (89, .pointer (some ⟨X, 2, none⟩)), (90, .slice va N vc), (91, .int .i64 p), (92, .bool false)] : List (Tmp × Value)).lookup t).getD undef

set_option maxRecDepth 100000 in
set_option maxHeartbeats 4000000 in
theorem h27_no {w6 : World} {b c X : Nat} {O Q : Nat → Prop} {L : List Bool} {x y : Int} {va : Option Addr} {N vc : Nat} {l : List Int} {p : Int}
    (HQ : Hid (HX w6 b c X O L x y va N vc)) (HN : Hid (l.length = N)) (HM : Hid (N ≤ 100000)) (HC : Hid (N ≤ vc)) (HI : Hid (intsL.In w6 Q l [.slice va N vc])) (HP : Hid (hPass L [] l = p))
    (a : Act) (m : Nat) (hn : a.tmps.size = m) (hn' : 93 ≤ m) (h5 : a.tmps.getD 5 undef = .pointer (some ⟨b, 0, none⟩)) (h6 : a.tmps.getD 6 undef = .pointer (some ⟨c, 0, none⟩)) (h8 : a.tmps.getD 8 undef = .pointer (some ⟨X, 0, none⟩)) :
    Code.wp Try.prog ((Try.f3.body.bind (hRegionOf 27)).getD .skip) (fun e a' w' => e = .normal ∧ ∃ vs, a' = puts a vs (List.range' 84 9) ∧ vs 92 = .bool false ∧ Below w6.heap.size w6 w') a w6 := by
  conv => arg 2; whnf

  refine wp_region_calm (h27E b c X p va N vc) (fun w => Below w6.heap.size w6 w) (fun w w' => Below w.heap.size w w') (outs := [5, 6, 8]) (gs := []) (bs := [true, true, true, true, true, true, true, true, true]) (by kernel_rfl) (n := 93) hn hn' (by kernel_rfl) ?hR trivial (hbelowN (Below.refl _ _) 1) ⟨h5, h6, h8, trivial⟩ ?hA ?hend
  case hR => exact fun t v w w' _ h => h
  case hend => exact fun vs w' hW hk => ⟨rfl, vs, rfl, hk 92 (by kernel_rfl), hW⟩
  case hA =>
    refine ⟨fun a w hW hk K hK => ?_, ?_⟩
    · obtain ⟨k0, -⟩ := hk
      have k0 : a.tmps.getD 5 undef = .pointer (some ⟨b, 0, none⟩) := k0
      go_simp
      exact hK _ _ (Below.refl _ _) hW rfl
    refine ⟨fun a w hW hk K hK => ?_, ?_⟩
    · obtain ⟨k0, -⟩ := hk
      have k0 : a.tmps.getD 8 undef = .pointer (some ⟨X, 0, none⟩) := k0
      go_simp
      exact hK _ _ (Below.refl _ _) hW rfl
    refine ⟨fun a w hW hk K hK => ?_, ?_⟩
    · obtain ⟨k0, -⟩ := hk
      have k0 : a.tmps.getD 85 undef = .pointer (some ⟨X, 2, none⟩) := k0
      have c0 := cellOf (HQ.out.below hW).box 2 _ rfl
      go_simp
      exact hK _ _ (Below.refl _ _) hW rfl
    refine ⟨fun a w hW hk K hK => ?_, ?_⟩
    · obtain ⟨k0, k1, -⟩ := hk
      have k0 : a.tmps.getD 84 undef = .pointer (some ⟨b, 0, none⟩) := k0
      have k1 : a.tmps.getD 86 undef = .slice va N vc := k1
      go_simp
      refine (held_pass HN.out HM.out (Lay.below HI.out hW) (HQ.out.below hW).held).mono ?_; rw [HP.out]; rintro r7 w7 ⟨rfl, b7⟩
      go_simp
      exact hK _ _ b7 (hW.trans (b7.mono hW.size)) rfl
    refine ⟨fun a w hW hk K hK => ?_, ?_⟩
    · obtain ⟨k0, -⟩ := hk
      have k0 : a.tmps.getD 6 undef = .pointer (some ⟨c, 0, none⟩) := k0
      go_simp
      exact hK _ _ (Below.refl _ _) hW rfl
    refine ⟨fun a w hW hk K hK => ?_, ?_⟩
    · obtain ⟨k0, -⟩ := hk
      have k0 : a.tmps.getD 8 undef = .pointer (some ⟨X, 0, none⟩) := k0
      go_simp
      exact hK _ _ (Below.refl _ _) hW rfl
    refine ⟨fun a w hW hk K hK => ?_, ?_⟩
    · obtain ⟨k0, -⟩ := hk
      have k0 : a.tmps.getD 89 undef = .pointer (some ⟨X, 2, none⟩) := k0
      have c0 := cellOf (HQ.out.below hW).box 2 _ rfl
      go_simp
      exact hK _ _ (Below.refl _ _) hW rfl
    refine ⟨fun a w hW hk K hK => ?_, ?_⟩
    · obtain ⟨k0, k1, -⟩ := hk
      have k0 : a.tmps.getD 88 undef = .pointer (some ⟨c, 0, none⟩) := k0
      have k1 : a.tmps.getD 90 undef = .slice va N vc := k1
      go_simp
      refine (holds_pass HN.out HM.out HC.out (Nat.le_trans (HQ.out.below hW).held.1 (by decide)) (Lay.below HI.out hW) (HQ.out.below hW).holds).mono ?_; rw [HP.out]; rintro r7 w7 ⟨rfl, b7⟩
      go_simp
      exact hK _ _ b7 (hW.trans (b7.mono hW.size)) rfl
    refine ⟨fun a w hW hk K hK => ?_, ?_⟩
    · obtain ⟨k0, k1, -⟩ := hk
      have k0 : a.tmps.getD 87 undef = .int .i64 p := k0
      have k1 : a.tmps.getD 91 undef = .int .i64 p := k1
      go_simp
      exact hK _ _ (Below.refl _ _) hW rfl
    trivial
end Go.Proofs.Ytcenkidhaoncgad
