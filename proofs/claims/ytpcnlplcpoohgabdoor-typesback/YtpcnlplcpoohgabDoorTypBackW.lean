/-
  The walk through TypesBack: it returns true, and nothing that came in has turned.
-/
import Derived.Test.YtpcnlplcpoohgabDoorTypBackSt
import Derived.Test.YtpcnlplcpoohgabDoorTypR24
import Derived.Test.YtpcnlplcpoohgabDoorTypDoesW
import Derived.Deep.OwnRows
namespace Go.Proofs.YtpcnlplcpoohgabDoor
open Go.ChangeShapes Go.WideShapes Go.ChangeAt Go.RowKit
set_option linter.unusedVariables false

theorem infoInt : (Tryd.prog.info? 3).map (fun i => (i.zero, i.size, i.bytes)) = some (some (.int .i64 0), 1, 8) := by kernel_rfl
theorem make16 (w : World) : (Instr.makeSlice 25 (.int .i64 16) (.int .i64 16)).run Tryd.prog w = .ok (.slice (some ⟨w.heap.size, 0, none⟩) 16 16) (w.alloc (.cells (madeCells #[.int .i64 0] 16) 3)) :=
  run_make_row' (P := Tryd.prog) 25 3 (.int .i64 0) 8 Tryd.underlying25 infoInt rfl .i64 .i64 16 (by omega) (by omega) w

/-- A number as uint, its rest by 16. -/
theorem u16 (b : Int) : ∃ k : Nat, k < 16 ∧ wrap64 ((IntKind.u64.wrap b).tmod 16) = (k : Int) := by
  have h0 : 0 ≤ IntKind.u64.wrap b := by
    simp [IntKind.wrap, IntKind.signed, IntKind.bits]
    omega
  rw [Int.tmod_eq_emod_of_nonneg h0]
  generalize IntKind.u64.wrap b = x at h0
  refine ⟨(x % 16).toNat, by omega, ?_⟩
  unfold wrap64
  omega

/-- The four lists, in blocks of their own. -/
structure Fr (w wr : World) (g8 g9 g10 g11 : Nat) (th bk on both : Nat → Int) : Prop where
  bel : Grew w wr
  r8 : wr.rowIs g8 3 16 (fun j => .int .i64 (th j))
  r9 : wr.rowIs g9 3 16 (fun j => .int .i64 (bk j))
  r10 : wr.rowIs g10 3 16 (fun j => .int .i64 (on j))
  r11 : wr.rowIs g11 3 16 (fun j => .int .i64 (both j))
  le : w.heap.size ≤ g8 ∧ w.heap.size ≤ g9 ∧ w.heap.size ≤ g10 ∧ w.heap.size ≤ g11
  ne : g8 ≠ g9 ∧ g8 ≠ g10 ∧ g8 ≠ g11 ∧ g9 ≠ g10 ∧ g9 ≠ g11 ∧ g10 ≠ g11
abbrev z16 : Obj := .cells (madeCells #[.int .i64 0] 16) 3
theorem Fr.start (w : World) (g8 g9 g10 g11 : Nat) (h : (w.heap.size ≤ g8 ∧ g8 < w.heap.size + 4) ∧ (w.heap.size ≤ g9 ∧ g9 < w.heap.size + 4) ∧ (w.heap.size ≤ g10 ∧ g10 < w.heap.size + 4) ∧ (w.heap.size ≤ g11 ∧ g11 < w.heap.size + 4) ∧ (g8 ≠ g9 ∧ g8 ≠ g10 ∧ g8 ≠ g11 ∧ g9 ≠ g10 ∧ g9 ≠ g11 ∧ g10 ≠ g11)) :
    Fr w (((((w.alloc z16).alloc z16).alloc z16).alloc z16).drew) g8 g9 g10 g11 (fun _ => 0) (fun _ => 0) (fun _ => 0) (fun _ => 0) := by
  have key : ∀ g, w.heap.size ≤ g → g < w.heap.size + 4 → ((((w.alloc z16).alloc z16).alloc z16).alloc z16).drew.rowIs g 3 16 (fun _ => .int .i64 0) := by
    intro g h1 h2
    show ((((w.alloc z16).alloc z16).alloc z16).alloc z16).rowIs g 3 16 (fun _ => .int .i64 0)
    rcases (show g = w.heap.size ∨ g = w.heap.size + 1 ∨ g = w.heap.size + 1 + 1 ∨ g = w.heap.size + 1 + 1 + 1 by omega) with rfl | rfl | rfl | rfl
    · exact (((World.rowIs_made w _ 16 _).alloc _).alloc _).alloc _
    · have := ((World.rowIs_made (w.alloc z16) (.int .i64 0) 16 3).alloc z16).alloc z16
      simpa using this
    · have := (World.rowIs_made ((w.alloc z16).alloc z16) (.int .i64 0) 16 3).alloc z16
      simpa using this
    · have := World.rowIs_made (((w.alloc z16).alloc z16).alloc z16) (.int .i64 0) 16 3
      simpa using this
  exact ⟨(grew_trans (grew_trans (grew_trans (grew_alloc w z16) (grew_alloc _ z16)) (grew_alloc _ z16)) (grew_alloc _ z16)).drew, key g8 h.1.1 h.1.2, key g9 h.2.1.1 h.2.1.2, key g10 h.2.2.1.1 h.2.2.1.2, key g11 h.2.2.2.1.1 h.2.2.2.1.2, ⟨h.1.1, h.2.1.1, h.2.2.1.1, h.2.2.2.1.1⟩, h.2.2.2.2⟩
section
variable {w wr w' : World} {g8 g9 g10 g11 : Nat} {th bk on both : Nat → Int}
theorem Fr.set8 (h : Fr w wr g8 g9 g10 g11 th bk on both) (i : Nat) (v : Int) : Fr w (wr.setCell ⟨g8, i, none⟩ (.int .i64 v)) g8 g9 g10 g11 (fun j => if j = i then v else th j) bk on both :=
  ⟨h.bel.setCell h.le.1 _, (h.r8.set i _).congr (fun j hj => by by_cases e : j = i <;> simp [e]), h.r9.setOther (fun e => h.ne.1 e.symm) _, h.r10.setOther (fun e => h.ne.2.1 e.symm) _, h.r11.setOther (fun e => h.ne.2.2.1 e.symm) _, h.le, h.ne⟩
theorem Fr.set9 (h : Fr w wr g8 g9 g10 g11 th bk on both) (i : Nat) (v : Int) : Fr w (wr.setCell ⟨g9, i, none⟩ (.int .i64 v)) g8 g9 g10 g11 th (fun j => if j = i then v else bk j) on both :=
  ⟨h.bel.setCell h.le.2.1 _, h.r8.setOther (fun e => h.ne.1 e) _, (h.r9.set i _).congr (fun j hj => by by_cases e : j = i <;> simp [e]), h.r10.setOther (fun e => h.ne.2.2.2.1 e.symm) _, h.r11.setOther (fun e => h.ne.2.2.2.2.1 e.symm) _, h.le, h.ne⟩
theorem Fr.set10 (h : Fr w wr g8 g9 g10 g11 th bk on both) (i : Nat) (v : Int) : Fr w (wr.setCell ⟨g10, i, none⟩ (.int .i64 v)) g8 g9 g10 g11 th bk (fun j => if j = i then v else on j) both :=
  ⟨h.bel.setCell h.le.2.2.1 _, h.r8.setOther (fun e => h.ne.2.1 e) _, h.r9.setOther (fun e => h.ne.2.2.2.1 e) _, (h.r10.set i _).congr (fun j hj => by by_cases e : j = i <;> simp [e]), h.r11.setOther (fun e => h.ne.2.2.2.2.2 e.symm) _, h.le, h.ne⟩
theorem Fr.set11 (h : Fr w wr g8 g9 g10 g11 th bk on both) (i : Nat) (v : Int) : Fr w (wr.setCell ⟨g11, i, none⟩ (.int .i64 v)) g8 g9 g10 g11 th bk on (fun j => if j = i then v else both j) :=
  ⟨h.bel.setCell h.le.2.2.2 _, h.r8.setOther (fun e => h.ne.2.2.1 e) _, h.r9.setOther (fun e => h.ne.2.2.2.2.1 e) _, h.r10.setOther (fun e => h.ne.2.2.2.2.2 e) _, (h.r11.set i _).congr (fun j hj => by by_cases e : j = i <;> simp [e]), h.le, h.ne⟩
theorem Fr.drewN (h : Fr w wr g8 g9 g10 g11 th bk on both) (m : Nat) : Fr w (wr.drewN m) g8 g9 g10 g11 th bk on both := ⟨drewN_below h.bel, h.r8, h.r9, h.r10, h.r11, h.le, h.ne⟩
end
theorem says_self {n : Nat} {t : TT n} {e : Ending} {wx w' : World} (h : SaysEq e (t = t) ∧ Grew wx w') : e = .returned (.bool true) ∧ Grew wx w' := by
  obtain ⟨⟨q, rfl, hq⟩, hb⟩ := h
  exact ⟨by rw [hq.2 rfl], hb⟩
theorem toIn_row {w : World} {g : Nat} {f : Nat → Int} (h : w.rowIs g 3 16 (fun j => .int .i64 (f j))) : ToIn w (some ⟨g, 0, none⟩) 16 f := fun i hi => ⟨g, 0, rfl, by rw [Nat.zero_add]; exact h.cell hi⟩

set_option maxHeartbeats 8000000 in
set_option maxRecDepth 100000 in
theorem back_any (n : Nat) (t : TT (n + 1)) (a : Option Addr) (c : Nat) (b1 b2 : Int) (w : World) (hb1 : -9223372036854775808 ≤ b1 ∧ b1 ≤ 9223372036854775807) (hb2 : -9223372036854775808 ≤ b2 ∧ b2 ≤ 9223372036854775807)
    (ht0 : TIn w All t a) (hp0 : Pows w) :
    Calls Tryd.prog 4 #[Tv t a c, .int .i64 b1, .int .i64 b2] w fun e w' => e = .returned (.bool true) ∧ Grew w w' := by
  have ht : Hid (TIn w All t a) := ht0
  have hp : Hid (Pows w) := hp0
  clear ht0 hp0
  have CG : Hid (∀ wx, Grew w wx → Calls Tryd.prog 6 #[Tv t a c] wx fun e w' => e = .returned (.bool (decide (2000 < t.count))) ∧ Grew wx w') := fun wx hb => great_any _ t a c wx (ht.out.below hb)
  have CB : Hid (∀ wx, Grew w wx → Calls Tryd.prog 5 #[] wx fun e w' => e = .returned (.bool true) ∧ Grew wx w') := fun wx hb => begun_any wx (hp.out.below hb)
  simp only [Tv] at CG ⊢
  go_enter Tryd.func4, Tryd.ntmps4
  go_wp2_with fail
  have P3 : Hid ((w.alloc (.cells #[.int .i64 t.kind, .int .i64 t.r, .slice a t.len c] 24)).heap[w.heap.size]? = some (.cells #[.int .i64 t.kind, .int .i64 t.r, .slice a t.len c] 24 (0, 0))) := blockNew w _ _
  have G0 : Hid (Grew w (w.alloc (.cells #[.int .i64 t.kind, .int .i64 t.r, .slice a t.len c] 24))) := grew_alloc w _
  generalize w.alloc (.cells #[.int .i64 t.kind, .int .i64 t.r, .slice a t.len c] 24) = w0 at P3 G0 ⊢
  refine (CB.out w0 G0.out).mono ?_
  rintro e w1 ⟨rfl, g1⟩
  have G1 : Hid (Grew w0 w1) := g1
  clear g1 CB
  have e0 : w1.cell? ⟨w.heap.size, 0, none⟩ = some (.int .i64 t.kind) := cellOf (box_cells P3.out G1.out) 0 _ rfl
  have e1 : w1.cell? ⟨w.heap.size, 1, none⟩ = some (.int .i64 t.r) := cellOf (box_cells P3.out G1.out) 1 _ rfl
  have e2 : w1.cell? ⟨w.heap.size, 2, none⟩ = some (.slice a t.len c) := cellOf (box_cells P3.out G1.out) 2 _ rfl
  go_wp2_with fail
  refine (CG.out w1 (grew_trans G0.out G1.out)).mono ?_
  rintro e w2 ⟨rfl, g2⟩
  have G2 : Hid (Grew w0 w2) := grew_trans G1.out g2
  clear g2 CG G1 e0 e1 e2
  by_cases hc1 : 2000 < t.count
  · rw [decide_eq_true hc1]
    clear hc1
    go_wp2
    go_ret
    exact ⟨rfl, grew_trans G0.out G2.out⟩
  rw [decide_eq_false hc1]
  have CT : Hid (t.count ≤ 2000) := by show t.count ≤ 2000; omega
  clear hc1
  have hmk := make16
  go_upto_region 6 with fail
  go_cut [8, 9, 10, 11] (fun v8 v9 v10 v11 wx => ∃ g8 g9 g10 g11, v8 = .slice (some ⟨g8, 0, none⟩) 16 16 ∧ v9 = .slice (some ⟨g9, 0, none⟩) 16 16 ∧ v10 = .slice (some ⟨g10, 0, none⟩) 16 16 ∧ v11 = .slice (some ⟨g11, 0, none⟩) 16 16 ∧ Fr w2 wx g8 g9 g10 g11 (fun _ => 0) (fun _ => 0) (fun _ => 0) (fun _ => 0))
  case first =>
    go_region
    all_goals
      go_wp2
      go_meet
      exact ⟨_, _, _, _, rfl, rfl, rfl, rfl, Fr.start w2 _ _ _ _ (by omega)⟩
  case rest =>
    obtain ⟨g8, g9, g10, g11, rfl, rfl, rfl, rfl, hF⟩ := hcut
    have F0 : Hid (Fr w2 wc g8 g9 g10 g11 (fun _ => 0) (fun _ => 0) (fun _ => 0) (fun _ => 0)) := hF
    clear hF hmk
    go_upto_region 7 with fail
    go_region
    obtain ⟨kn, hkn, e12⟩ := u16 b1
    obtain ⟨mn, hmn, e13⟩ := u16 b2
    simp only [e12, e13]
    have F1 : Hid (Fr w2 wc.drew g8 g9 g10 g11 (fun _ => 0) (fun _ => 0) (fun _ => 0) (fun _ => 0)) := F0.out.drewN 1
    generalize wc.drew = w3 at F1 ⊢
    clear F0 e12 e13 hb1 hb2
    go_wp2_with fail
    go_loopw [14] (fun i wr => ∃ q : Nat, q ≤ 16 ∧ i = .int .i64 q ∧ ∃ th bk on : Nat → Int, ((∀ j, j < q → th j = ((j + kn) % 16 : Nat)) ∧ (∀ j, j < q → bk ((j + kn) % 16) = (j : Int)) ∧ (∀ j, j < q → on j = ((j * 3 + mn) % 16 : Nat))) ∧ Fr w2 wr g8 g9 g10 g11 th bk on (fun _ => 0)) (fun i _ => 16 - (intOf i).toNat)
    case atStart => exact ⟨0, by omega, rfl, _, _, _, ⟨fun j hj => by omega, fun j hj => by omega, fun j hj => by omega⟩, F1.out⟩
    case round =>
      clear F1
      obtain ⟨q, hq, rfl, th, bk, on, hN, hF⟩ := hrel
      have N : Hid ((∀ j, j < q → th j = ((j + kn) % 16 : Nat)) ∧ (∀ j, j < q → bk ((j + kn) % 16) = (j : Int)) ∧ (∀ j, j < q → on j = ((j * 3 + mn) % 16 : Nat))) := hN
      have F : Hid (Fr w2 wr g8 g9 g10 g11 th bk on (fun _ => 0)) := hF
      clear hN hF
      by_cases hlt : q < 16
      · have hk0 : (0 : Int) ≤ q := by omega
        have hk1 : (q : Int) < 16 := by omega
        have hkn0 : (0 : Int) ≤ kn := by omega
        have hkn1 : (kn : Int) < 16 := by omega
        have hmn0 : (0 : Int) ≤ mn := by omega
        have hmn1 : (mn : Int) < 16 := by omega
        obtain ⟨n1, n2, n3, n4, n5, n6⟩ := F.out.ne
        obtain ⟨x, hx, hx16⟩ : ∃ x : Nat, (q + kn) % 16 = x ∧ x < 16 := ⟨_, rfl, by omega⟩
        obtain ⟨y, hy, hy16⟩ : ∃ y : Nat, (q * 3 + mn) % 16 = y ∧ y < 16 := ⟨_, rfl, by omega⟩
        have hx' : ((q : Int) + kn) % 16 = x := by omega
        have hy' : ((q : Int) * 3 + mn) % 16 = y := by omega
        have c8 := F.out.r8.cell hlt
        have f8 := F.out.r8.frozen q
        have c9 := F.out.r9.cell hx16
        have f9 := F.out.r9.frozen x
        have c10 := F.out.r10.cell hlt
        have f10 := F.out.r10.frozen q
        have X : Hid ((q + kn) % 16 = x ∧ (q * 3 + mn) % 16 = y) := ⟨hx, hy⟩
        clear hx hy
        have n1' := n1.symm
        have n2' := n2.symm
        have n4' := n4.symm
        have Z : Hid (∃ th bk on : Nat → Int, ((∀ j, j < q + 1 → th j = ((j + kn) % 16 : Nat)) ∧ (∀ j, j < q + 1 → bk ((j + kn) % 16) = (j : Int)) ∧ (∀ j, j < q + 1 → on j = ((j * 3 + mn) % 16 : Nat))) ∧ Fr w2 (((wr.setCell ⟨g8, q, none⟩ (.int .i64 x)).setCell ⟨g9, x, none⟩ (.int .i64 q)).setCell ⟨g10, q, none⟩ (.int .i64 y)) g8 g9 g10 g11 th bk on (fun _ => 0)) := by
          refine ⟨_, _, _, ⟨?_, ?_, ?_⟩, ((F.out.set8 q x).set9 x q).set10 q y⟩
          · intro j hj
            have h1 := X.out.1
            by_cases e : j = q
            · simp only [e, if_true]; omega
            · simp only [e, if_false]; exact N.out.1 j (by omega)
          · intro j hj
            have h1 := X.out.1
            by_cases e : j = q
            · subst e; simp only [h1, if_true]
            · have : ¬ (j + kn) % 16 = x := by omega
              simp only [this, if_false]; exact N.out.2.1 j (by omega)
          · intro j hj
            have h1 := X.out.2
            by_cases e : j = q
            · simp only [e, if_true]; omega
            · simp only [e, if_false]; exact N.out.2.2 j (by omega)
        clear X N F
        go_wp2
        go_roundw
        case rel => exact ⟨q + 1, by omega, by go_num, Z.out⟩
        case measure => simp [intOf]; omega
      · have hk1 : ¬ (q : Int) < 16 := by omega
        obtain rfl : q = 16 := by omega
        clear hlt
        go_wp2_with fail
        go_loopw [15] (fun i wr => ∃ q : Nat, q ≤ 16 ∧ i = .int .i64 q ∧ ∃ both : Nat → Int, (∀ j, j < q → both j = on ((j + kn) % 16)) ∧ Fr w2 wr g8 g9 g10 g11 th bk on both) (fun i _ => 16 - (intOf i).toNat)
        case atStart => exact ⟨0, by omega, rfl, _, fun j hj => by omega, F.out⟩
        case round =>
          clear F
          rename_i wr0
          obtain ⟨q, hq, rfl, both, hB, hF⟩ := hrel
          have F : Hid (Fr w2 wr g8 g9 g10 g11 th bk on both) := hF
          have HB : Hid (∀ j, j < q → both j = on ((j + kn) % 16)) := hB
          clear hB hF
          by_cases hlt : q < 16
          · have hk0 : (0 : Int) ≤ q := by omega
            have hk1 : (q : Int) < 16 := by omega
            obtain ⟨n1, n2, n3, n4, n5, n6⟩ := F.out.ne
            obtain ⟨x, hx, hx16⟩ : ∃ x : Nat, (q + kn) % 16 = x ∧ x < 16 := ⟨_, rfl, by omega⟩
            have hx0 : (0 : Int) ≤ x := by omega
            have hx1 : (x : Int) < 16 := by omega
            have c8 := F.out.r8.cell hlt
            rw [N.out.1 q (by omega), hx] at c8
            have c10 := F.out.r10.cell hx16
            have c11 := F.out.r11.cell hlt
            have f11 := F.out.r11.frozen q
            have Z : Hid (∃ both : Nat → Int, (∀ j, j < q + 1 → both j = on ((j + kn) % 16)) ∧ Fr w2 (wr.setCell ⟨g11, q, none⟩ (.int .i64 (on x))) g8 g9 g10 g11 th bk on both) := by
              refine ⟨_, ?_, F.out.set11 q (on x)⟩
              intro j hj
              by_cases e : j = q
              · simp only [e, if_true]; rw [hx]
              · simp only [e, if_false]; exact HB.out j (by omega)
            clear HB F hx
            generalize on x = ox at c10 Z
            go_wp2
            go_roundw
            case rel => exact ⟨q + 1, by omega, by go_num, Z.out⟩
            case measure => simp [intOf]; omega
          · have hk1 : ¬ (q : Int) < 16 := by omega
            obtain rfl : q = 16 := by omega
            have NN : Hid (Names kn mn th bk on both) := ⟨hkn, N.out.1, N.out.2.1, N.out.2.2, HB.out⟩
            clear hlt HB N
            have G3 : Hid (Grew w0 wr) := grew_trans G2.out F.out.bel
            have T8 : Hid (ToIn wr (some ⟨g8, 0, none⟩) 16 th) := toIn_row F.out.r8
            have T9 : Hid (ToIn wr (some ⟨g9, 0, none⟩) 16 bk) := toIn_row F.out.r9
            have T10 : Hid (ToIn wr (some ⟨g10, 0, none⟩) 16 on) := toIn_row F.out.r10
            have T11 : Hid (ToIn wr (some ⟨g11, 0, none⟩) 16 both) := toIn_row F.out.r11
            have e0 : wr.cell? ⟨w.heap.size, 0, none⟩ = some (.int .i64 t.kind) := cellOf (box_cells P3.out G3.out) 0 _ rfl
            have e1 : wr.cell? ⟨w.heap.size, 1, none⟩ = some (.int .i64 t.r) := cellOf (box_cells P3.out G3.out) 1 _ rfl
            have e2 : wr.cell? ⟨w.heap.size, 2, none⟩ = some (.slice a t.len c) := cellOf (box_cells P3.out G3.out) 2 _ rfl
            clear F G2
            go_wp2_with fail
            refine (rename_any _ t a c (some ⟨g8, 0, none⟩) 16 16 th wr (ht.out.below (grew_trans G0.out G3.out)) CT.out T8.out).mono ?_
            intro e w4 h4
            clear e0 e1 e2
            cases hr : t.ren 16 th with
            | none =>
              rw [hr] at h4
              obtain ⟨rfl, g4⟩ := h4
              have hcz : Hid (t.check 16 ≠ 0) := NN.out.none hr
              have G4 : Hid (Grew w0 w4) := grew_trans G3.out g4
              have e0 : w4.cell? ⟨w.heap.size, 0, none⟩ = some (.int .i64 t.kind) := cellOf (box_cells P3.out G4.out) 0 _ rfl
              have e1 : w4.cell? ⟨w.heap.size, 1, none⟩ = some (.int .i64 t.r) := cellOf (box_cells P3.out G4.out) 1 _ rfl
              have e2 : w4.cell? ⟨w.heap.size, 2, none⟩ = some (.slice a t.len c) := cellOf (box_cells P3.out G4.out) 2 _ rfl
              have hsz : w.heap.size < w4.heap.size := World.block_lt_of_cell? w4 ⟨w.heap.size, 0, none⟩ e0
              clear hr g4 NN T8 T9 T10 T11
              go_wp2_with fail
              have G5 : Hid (Grew w0 (w4.alloc (.cells #[.int .i64 0, .int .i64 0, .slice none 0 0] 24))) := grew_trans G4.out (grew_alloc w4 _)
              refine (check_any _ t a c 16 _ (ht.out.below (grew_trans G0.out G5.out)) CT.out).mono ?_
              rintro e w5 ⟨rfl, g5⟩
              have G6 : Hid (Grew w w5) := grew_trans G0.out (grew_trans G5.out g5)
              have hcz' : (t.check 16 != 0) = true := by simpa using hcz.out
              generalize t.check 16 = v at hcz' ⊢
              clear g5 e0 e1 e2 hsz hcz
              go_wp2
              go_ret
              exact ⟨rfl, G6.out⟩
            | some u =>
              rw [hr] at h4
              obtain ⟨a4, c4, rfl, t4, g4⟩ := h4
              simp only [Tv]
              obtain ⟨L1, ⟨v, L2, L3⟩, L4⟩ := NN.out.law hr
              have CU : Hid (u.count ≤ 2000) := by show _ ≤ _; rw [TT.ren_count hr]; exact CT.out
              have LL : Hid (u.ren 16 bk = some t ∧ u.ren 16 on = some v ∧ t.ren 16 both = some v ∧ u.check 16 = t.check 16) := ⟨L1, L2, L3, L4⟩
              have CV : Hid (v.count ≤ 2000) := by show _ ≤ _; rw [TT.ren_count L3]; exact CT.out
              have G4 : Hid (Grew wr w4) := g4
              have TU : Hid (TIn w4 All u a4) := t4.all
              clear g4 t4 L1 L2 L3 L4 hr NN T8
              go_wp2_with fail
              have P16 : Hid ((w4.alloc (.cells #[.int .i64 u.kind, .int .i64 u.r, .slice a4 u.len c4] 24)).heap[w4.heap.size]? = some (.cells #[.int .i64 u.kind, .int .i64 u.r, .slice a4 u.len c4] 24 (0, 0))) := blockNew w4 _ _
              have G5 : Hid (Grew w4 (w4.alloc (.cells #[.int .i64 u.kind, .int .i64 u.r, .slice a4 u.len c4] 24))) := grew_alloc w4 _
              generalize w4.alloc (.cells #[.int .i64 u.kind, .int .i64 u.r, .slice a4 u.len c4] 24) = w5 at P16 G5 ⊢
              generalize w4.heap.size = H16 at P16 ⊢
              have G35 : Hid (Grew wr w5) := grew_trans G4.out G5.out
              refine (rename_any _ u a4 c4 (some ⟨g9, 0, none⟩) 16 16 bk w5 (TU.out.below G5.out) CU.out (T9.out.below G35.out)).mono ?_
              intro e w6 h6
              rw [LL.out.1] at h6
              obtain ⟨a6, c6, rfl, t6, g6⟩ := h6
              simp only [Tv]
              have G6 : Hid (Grew w5 w6) := g6
              have TT6 : Hid (TIn w6 All t a6) := t6.all
              have k0 : w6.cell? ⟨H16, 0, none⟩ = some (.int .i64 u.kind) := cellOf (box_cells P16.out G6.out) 0 _ rfl
              have k1 : w6.cell? ⟨H16, 1, none⟩ = some (.int .i64 u.r) := cellOf (box_cells P16.out G6.out) 1 _ rfl
              have k2 : w6.cell? ⟨H16, 2, none⟩ = some (.slice a4 u.len c4) := cellOf (box_cells P16.out G6.out) 2 _ rfl
              have hsz : H16 < w6.heap.size := World.block_lt_of_cell? w6 ⟨H16, 0, none⟩ k0
              clear g6 t6 T9
              go_wp2_with fail
              have P18 : Hid ((w6.alloc (.cells #[.int .i64 t.kind, .int .i64 t.r, .slice a6 t.len c6] 24)).heap[w6.heap.size]? = some (.cells #[.int .i64 t.kind, .int .i64 t.r, .slice a6 t.len c6] 24 (0, 0))) := blockNew w6 _ _
              have G7 : Hid (Grew w6 (w6.alloc (.cells #[.int .i64 t.kind, .int .i64 t.r, .slice a6 t.len c6] 24))) := grew_alloc w6 _
              generalize w6.alloc (.cells #[.int .i64 t.kind, .int .i64 t.r, .slice a6 t.len c6] 24) = w7 at P18 G7 ⊢
              generalize w6.heap.size = H18 at P18 ⊢
              clear k0 k1 k2 hsz
              have G57 : Hid (Grew w5 w7) := grew_trans G6.out G7.out
              refine (rename_any _ u a4 c4 (some ⟨g10, 0, none⟩) 16 16 on w7 ((TU.out.below G5.out).below G57.out) CU.out ((T10.out.below G35.out).below G57.out)).mono ?_
              intro e w8 h8
              rw [LL.out.2.1] at h8
              obtain ⟨a8, c8, rfl, t8, g8'⟩ := h8
              simp only [Tv]
              have G8 : Hid (Grew w7 w8) := g8'
              have TT8 : Hid (TIn w8 All v a8) := t8.all
              have G08 : Hid (Grew w0 w8) := grew_trans (grew_trans (grew_trans G3.out G35.out) G57.out) G8.out
              have e0 : w8.cell? ⟨w.heap.size, 0, none⟩ = some (.int .i64 t.kind) := cellOf (box_cells P3.out G08.out) 0 _ rfl
              have e1 : w8.cell? ⟨w.heap.size, 1, none⟩ = some (.int .i64 t.r) := cellOf (box_cells P3.out G08.out) 1 _ rfl
              have e2 : w8.cell? ⟨w.heap.size, 2, none⟩ = some (.slice a t.len c) := cellOf (box_cells P3.out G08.out) 2 _ rfl
              have hsz : w.heap.size < w8.heap.size := World.block_lt_of_cell? w8 ⟨w.heap.size, 0, none⟩ e0
              clear g8' t8 T10
              go_wp2_with fail
              have P20 : Hid ((w8.alloc (.cells #[.int .i64 v.kind, .int .i64 v.r, .slice a8 v.len c8] 24)).heap[w8.heap.size]? = some (.cells #[.int .i64 v.kind, .int .i64 v.r, .slice a8 v.len c8] 24 (0, 0))) := blockNew w8 _ _
              have G9 : Hid (Grew w8 (w8.alloc (.cells #[.int .i64 v.kind, .int .i64 v.r, .slice a8 v.len c8] 24))) := grew_alloc w8 _
              generalize w8.alloc (.cells #[.int .i64 v.kind, .int .i64 v.r, .slice a8 v.len c8] 24) = w9 at P20 G9 ⊢
              generalize w8.heap.size = H20 at P20 ⊢
              clear e0 e1 e2 hsz
              have G09 : Hid (Grew w0 w9) := grew_trans G08.out G9.out
              have G39 : Hid (Grew wr w9) := grew_trans (grew_trans (grew_trans G35.out G57.out) G8.out) G9.out
              refine (rename_any _ t a c (some ⟨g11, 0, none⟩) 16 16 both w9 (ht.out.below (grew_trans G0.out G09.out)) CT.out (T11.out.below G39.out)).mono ?_
              intro e w10 h10
              rw [LL.out.2.2.1] at h10
              obtain ⟨a10, c10, rfl, t10, g10'⟩ := h10
              simp only [Tv]
              have G10 : Hid (Grew w9 w10) := g10'
              have TT10 : Hid (TIn w10 All v a10) := t10.all
              clear g10' t10 T11
              go_wp2_with fail
              have P22 : Hid ((w10.alloc (.cells #[.int .i64 v.kind, .int .i64 v.r, .slice a10 v.len c10] 24)).heap[w10.heap.size]? = some (.cells #[.int .i64 v.kind, .int .i64 v.r, .slice a10 v.len c10] 24 (0, 0))) := blockNew w10 _ _
              have G11 : Hid (Grew w10 (w10.alloc (.cells #[.int .i64 v.kind, .int .i64 v.r, .slice a10 v.len c10] 24))) := grew_alloc w10 _
              generalize w10.alloc (.cells #[.int .i64 v.kind, .int .i64 v.r, .slice a10 v.len c10] 24) = w11 at P22 G11 ⊢
              generalize w10.heap.size = H22 at P22 ⊢
              have q9 : Grew w9 w11 := grew_trans G10.out G11.out
              have q8 : Grew w8 w11 := grew_trans G9.out q9
              have q7 : Grew w7 w11 := grew_trans G8.out q8
              have q6 : Grew w6 w11 := grew_trans G7.out q7
              have q5 : Grew w5 w11 := grew_trans G6.out q6
              have q0 : Grew w0 w11 := grew_trans G09.out q9
              have ht11 : TIn w11 All t a := ht.out.below (grew_trans G0.out q0)
              have C127 : Hid (∀ wx, Grew w11 wx → Calls Tryd.prog 12 #[Tv t a c, Tv t a6 c6] wx fun e w' => e = .returned (.bool true) ∧ Grew wx w') := fun wx hb =>
                (same_any _ t t a a6 c c6 wx (ht11.below hb) ((TT6.out.below q6).below hb) CT.out).mono (fun _ _ h => says_self h)
              have C138 : Hid (∀ wx, Grew w11 wx → Calls Tryd.prog 12 #[Tv v a8 c8, Tv v a10 c10] wx fun e w' => e = .returned (.bool true) ∧ Grew wx w') := fun wx hb =>
                (same_any _ v v a8 a10 c8 c10 wx ((TT8.out.below q8).below hb) ((TT10.out.below G11.out).below hb) CV.out).mono (fun _ _ h => says_self h)
              have C143 : Hid (∀ wx, Grew w11 wx → Calls Tryd.prog 10 #[Tv u a4 c4, .int .i64 16] wx fun e w' => e = .returned (.int .i64 (t.check 16)) ∧ Grew wx w') := fun wx hb => by
                have := check_any _ u a4 c4 16 wx (((TU.out.below G5.out).below q5).below hb) CU.out
                rw [LL.out.2.2.2] at this
                exact this
              have C146 : Hid (∀ wx, Grew w11 wx → Calls Tryd.prog 10 #[Tv t a c, .int .i64 16] wx fun e w' => e = .returned (.int .i64 (t.check 16)) ∧ Grew wx w') := fun wx hb => check_any _ t a c 16 wx (ht11.below hb) CT.out
              have B3 := box_cells P3.out q0
              have B16 := box_cells P16.out q5
              have B18 := box_cells P18.out q7
              have B20 := box_cells P20.out q9
              have B22 := P22.out
              have GG : Hid (Grew w w11) := grew_trans G0.out q0
              clear ht hp P3 P16 P18 P20 P22 G0 G3 G4 G5 G35 G6 G7 G57 G8 G08 G9 G09 G39 G10 G11 q9 q8 q7 q6 q5 q0 ht11 TU TT6 TT8 TT10 LL CT CU CV
              refine Code.wp_mono ?_ (r24_true B3 B16 B18 B20 B22 C127 C138 C143 C146 _ _ rfl (Nat.le_of_ble_eq_true (by kernel_rfl)) rfl rfl rfl rfl rfl rfl rfl rfl rfl)
              rintro ee aa wx ⟨rfl, vs, rfl, hv, hb⟩
              simp only [puts, List.range', Act.put, List.setIfInBounds_toArray, List.set_cons_zero, List.set_cons_succ, hv, List.cons_append, List.nil_append]
              have HBB : Hid (Grew w wx) := grew_trans GG.out hb
              clear hb hv B3 B16 B18 B20 B22 C127 C138 C143 C146
              go_wp2
              go_ret
              exact ⟨rfl, HBB.out⟩
end Go.Proofs.YtpcnlplcpoohgabDoor
