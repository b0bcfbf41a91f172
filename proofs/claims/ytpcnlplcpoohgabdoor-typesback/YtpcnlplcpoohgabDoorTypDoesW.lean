/-
  The walk through TypesDoes: it returns true, and nothing that came in has turned.
-/
import Derived.Test.YtpcnlplcpoohgabDoorTypBeg
import Derived.Test.YtpcnlplcpoohgabDoorTypR8
import Derived.Test.YtpcnlplcpoohgabDoorTypRen3
import Derived.Test.YtpcnlplcpoohgabDoorTypText4
namespace Go.Proofs.YtpcnlplcpoohgabDoor
open Go.ChangeShapes Go.WideShapes Go.ChangeAt Go.RowKit
set_option linter.unusedVariables false

theorem TT.ren_count {m : Nat} {nm : Nat → Int} : {n : Nat} → {t u : TT n} → t.ren m nm = some u → u.count = t.count
  | 0, t, _, _ => Empty.elim t
  | n + 1, t, u, h => by
    simp only [TT.ren] at h
    cases e1 : renR m nm t.1 t.2.1 with
    | none => simp [e1] at h
    | some r1 =>
      simp only [e1] at h
      cases e2 : renL (TT.ren m nm) t.2.2 with
      | none => simp [e2] at h
      | some l1 =>
        simp only [e2] at h
        have h := Option.some.inj h
        subst h
        simp only [TT.count]
        congr 2
        obtain ⟨a1, a2⟩ := renL_iff.1 e2
        apply List.ext_getElem (by simp [a1])
        intro i h1 h2
        simp at h1 h2
        have ha := a2 i t.2.2[i] (List.getElem?_eq_getElem h2)
        rw [List.getElem?_eq_getElem h1] at ha
        simp [TT.ren_count ha]

/-- Nothing old has turned. -/
abbrev Grew (w w' : World) : Prop := Below w.heap.size w w'
theorem grew_trans {w w' w'' : World} (h : Grew w w') (k : Grew w' w'') : Grew w w'' := h.trans (k.mono h.size)
theorem grew_alloc (w : World) (o : Obj) : Grew w (w.alloc o) := (Below.refl _ w).alloc (Nat.le_refl _) _

/-- What came of a renaming, the zero type where nothing did. -/
def renX {n : Nat} (o : Option (TT (n + 1))) : TT (n + 1) := o.getD (mkT 0 0 [])
theorem ren_out {n : Nat} {w w' : World} {o : Option (TT (n + 1))} {e : Ending} (h : RenOut w w' o e) : ∃ a' c', e = .returned (.tuple #[Tv (renX o) a' c', .bool o.isSome]) ∧ TIn w' All (renX o) a' ∧ Grew w w' := by
  cases o with
  | none => exact ⟨none, 0, h.1, LIn.nil, h.2⟩
  | some u =>
    obtain ⟨a, c, h1, h2, h3⟩ := h
    exact ⟨a, c, h1, h2.all, h3⟩
theorem renX_count {n : Nat} {t : TT (n + 1)} {m : Nat} {nm : Nat → Int} (h : t.count ≤ 2000) : (renX (t.ren m nm)).count ≤ 2000 := by
  cases hr : t.ren m nm with
  | none => show TT.count (n := n + 1) (mkT 0 0 []) ≤ 2000; simp [TT.count]
  | some u => show u.count ≤ 2000; rw [TT.ren_count hr]; exact h

theorem two_boxes (w : World) (o1 o2 : Obj) : (((w.alloc o1).alloc o2).heap[w.heap.size]? = some o1 ∧ ((w.alloc o1).alloc o2).heap[w.heap.size + 1]? = some o2) ∧ Grew w ((w.alloc o1).alloc o2) := by
  refine ⟨⟨(Below.heap_alloc _ _ _ (by simp)).trans ?_, ?_⟩, grew_trans (grew_alloc _ _) (grew_alloc _ _)⟩
  · show (w.heap.push _)[w.heap.size]? = _
    simp
  · show ((w.heap.push _).push _)[w.heap.size + 1]? = _
    rw [Array.getElem?_push, if_pos (by simp)]

set_option maxHeartbeats 8000000 in
set_option maxRecDepth 100000 in
theorem does_any (n : Nat) (t u : TT (n + 1)) (a b : Option Addr) (c d : Nat) (regs : Int) (bo : Option Addr) (m dd : Nat) (nm : Nat → Int) (w : World)
    (ht0 : TIn w All t a) (hu0 : TIn w All u b) (hok0 : t.ok) (hto0 : ToIn w bo m nm) (hp0 : Pows w) :
    Calls Tryd.prog 3 #[Tv t a c, Tv u b d, .int .i64 regs, .slice bo m dd] w fun e w' => e = .returned (.bool true) ∧ Grew w w' := by
  have ht : Hid (TIn w All t a) := ht0
  have hu : Hid (TIn w All u b) := hu0
  have hok : Hid t.ok := hok0
  have hto : Hid (ToIn w bo m nm) := hto0
  have hp : Hid (Pows w) := hp0
  clear ht0 hu0 hok0 hto0 hp0
  have CG : Hid (∀ wx, Grew w wx → Calls Tryd.prog 6 #[Tv t a c] wx fun e w' => e = .returned (.bool (decide (2000 < t.count))) ∧ Grew wx w') := fun wx hb => great_any _ t a c wx (ht.out.below hb)
  have CG2 : Hid (∀ wx, Grew w wx → Calls Tryd.prog 6 #[Tv u b d] wx fun e w' => e = .returned (.bool (decide (2000 < u.count))) ∧ Grew wx w') := fun wx hb => great_any _ u b d wx (hu.out.below hb)
  have CO : Hid (t.count ≤ 2000 → ∀ wx, Grew w wx → Calls Tryd.prog 7 #[Tv t a c] wx fun e w' => TOut wx w' t e) := fun h wx hb => own_any _ t a c wx (ht.out.below hb) h
  have CR : Hid (t.count ≤ 2000 → ∀ wx (a' : Option Addr) (c' : Nat), Grew w wx → TIn wx All t a' → Calls Tryd.prog 8 #[Tv t a' c', .slice bo m dd] wx fun e w' => RenOut wx w' (t.ren m nm) e) := fun h wx a' c' hb h' => rename_any _ t a' c' bo m dd nm wx h' h (hto.out.below hb)
  have CR2 : Hid (t.count ≤ 2000 → ∀ wx, Grew w wx → Calls Tryd.prog 9 #[Tv t a c, .slice bo m dd] wx fun e w' => RenOut wx w' (t.ren m nm) e) := fun h wx hb => renamedT_any _ t a c bo m dd nm wx (ht.out.below hb) h (hto.out.below hb)
  have CE : Hid (t.count ≤ 2000 → ∀ (w6 : World) (a1 : Option Addr) (c1 : Nat) (ax ay : Option Addr) (cx cy : Nat), Grew w w6 → TIn w6 All t a1 → TIn w6 All (renX (t.ren m nm)) ax → TIn w6 All (renX (t.ren m nm)) ay →
      ∃ (cv : Int) (qb : Bool) (tx : List UInt8),
      (∀ wx, Grew w6 wx → Calls Tryd.prog 10 #[Tv t a1 c1, .int .i64 regs] wx fun e w' => e = .returned (.int .i64 cv) ∧ Grew wx w') ∧
      (∀ wx, Grew w6 wx → Calls Tryd.prog 11 #[Tv t a c, .int .i64 regs] wx fun e w' => e = .returned (.int .i64 cv) ∧ Grew wx w') ∧
      (∀ wx, Grew w6 wx → Calls Tryd.prog 12 #[Tv t a1 c1, Tv u b d] wx fun e w' => e = .returned (.bool qb) ∧ Grew wx w') ∧
      (∀ wx, Grew w6 wx → Calls Tryd.prog 13 #[Tv t a c, Tv u b d] wx fun e w' => e = .returned (.bool qb) ∧ Grew wx w') ∧
      (∀ wx, Grew w6 wx → Calls Tryd.prog 13 #[Tv (renX (t.ren m nm)) ax cx, Tv (renX (t.ren m nm)) ay cy] wx fun e w' => e = .returned (.bool true) ∧ Grew wx w') ∧
      (∀ wx, Grew w6 wx → Calls Tryd.prog 14 #[Tv t a1 c1] wx fun e w' => e = .returned (.string ⟨tx.toArray⟩) ∧ Grew wx w') ∧
      (∀ wx, Grew w6 wx → Calls Tryd.prog 15 #[Tv t a c] wx fun e w' => e = .returned (.string ⟨tx.toArray⟩) ∧ Grew wx w') ∧
      (∀ wx, Grew w6 wx → Calls Tryd.prog 13 #[Tv t a1 c1, Tv t a c] wx fun e w' => e = .returned (.bool true) ∧ Grew wx w')) := by
    intro hct w6 a1 c1 ax ay cx cy hg h1 hx hy
    have ht6 := ht.out.below hg
    have hu6 := hu.out.below hg
    obtain ⟨qb, hqb⟩ : ∃ qb : Bool, qb = true ↔ t = u := by
      by_cases h : t = u
      · exact ⟨true, by simp [h]⟩
      · exact ⟨false, by simp [h]⟩
    have fix : ∀ {e : Ending} {w' wx : World}, SaysEq e (t = u) ∧ Grew wx w' → e = .returned (.bool qb) ∧ Grew wx w' := by
      rintro e w' wx ⟨⟨q, rfl, hq⟩, hb⟩
      exact ⟨by rw [show q = qb from by rw [Bool.eq_iff_iff, hq, hqb]], hb⟩
    have yes : ∀ {e : Ending} {w' wx : World} {T : TT (n + 1)}, SaysEq e (T = T) ∧ Grew wx w' → e = .returned (.bool true) ∧ Grew wx w' := by
      rintro e w' wx T ⟨⟨q, rfl, hq⟩, hb⟩
      exact ⟨by rw [hq.2 rfl], hb⟩
    refine ⟨t.check regs, qb, t.txt, ?_, ?_, ?_, ?_, ?_, ?_, ?_, ?_⟩
    · exact fun wx hb => check_any _ t a1 c1 regs wx (h1.below hb) hct
    · exact fun wx hb => typeFaultT_any _ t a c regs wx (ht6.below hb) hct
    · exact fun wx hb => (same_any _ t u a1 b c1 d wx (h1.below hb) (hu6.below hb) hct).mono (fun _ _ h => fix h)
    · exact fun wx hb => (samet_any _ t u a b c d wx (ht6.below hb) (hu6.below hb) hct).mono (fun _ _ h => fix h)
    · exact fun wx hb => (samet_any _ _ _ ax ay cx cy wx (hx.below hb) (hy.below hb) (renX_count hct)).mono (fun _ _ h => yes h)
    · exact fun wx hb => text_any _ t a1 c1 wx (h1.below hb) hct hok.out (hp.out.below (grew_trans hg hb))
    · exact fun wx hb => typeText_any _ t a c wx (ht6.below hb) hct hok.out (hp.out.below (grew_trans hg hb))
    · exact fun wx hb => (samet_any _ t t a1 a c1 c wx (h1.below hb) (ht6.below hb) hct).mono (fun _ _ h => yes h)
  simp only [Tv] at CG CG2 CO CR CR2 CE ⊢
  have CB : Hid (∀ wx, Grew w wx → Calls Tryd.prog 5 #[] wx fun e w' => e = .returned (.bool true) ∧ Grew wx w') := fun wx hb => begun_any wx (hp.out.below hb)
  clear ht hu hok hto hp
  go_enter Tryd.func3, Tryd.ntmps3
  go_wp2_with fail
  obtain ⟨⟨p4, p5⟩, g0⟩ := two_boxes w (.cells #[.int .i64 t.kind, .int .i64 t.r, .slice a t.len c] 24) (.cells #[.int .i64 u.kind, .int .i64 u.r, .slice b u.len d] 24)
  generalize (w.alloc (.cells #[.int .i64 t.kind, .int .i64 t.r, .slice a t.len c] 24)).alloc (.cells #[.int .i64 u.kind, .int .i64 u.r, .slice b u.len d] 24) = w0 at p4 p5 g0 ⊢
  have P4 : Hid (w0.heap[w.heap.size]? = some (.cells #[.int .i64 t.kind, .int .i64 t.r, .slice a t.len c] 24 (0, 0))) := p4
  have P5 : Hid (w0.heap[w.heap.size + 1]? = some (.cells #[.int .i64 u.kind, .int .i64 u.r, .slice b u.len d] 24 (0, 0))) := p5
  have G0 : Hid (Grew w w0) := g0
  clear p4 p5 g0
  refine (CB.out w0 G0.out).mono ?_
  rintro e w1 ⟨rfl, g1⟩
  have G1 : Hid (Grew w0 w1) := g1
  clear g1 CB
  have e0 : w1.cell? ⟨w.heap.size, 0, none⟩ = some (.int .i64 t.kind) := cellOf (box_cells P4.out G1.out) 0 _ rfl
  have e1 : w1.cell? ⟨w.heap.size, 1, none⟩ = some (.int .i64 t.r) := cellOf (box_cells P4.out G1.out) 1 _ rfl
  have e2 : w1.cell? ⟨w.heap.size, 2, none⟩ = some (.slice a t.len c) := cellOf (box_cells P4.out G1.out) 2 _ rfl
  go_wp2_with fail
  refine (CG.out w1 (grew_trans G0.out G1.out)).mono ?_
  rintro e w2 ⟨rfl, g2⟩
  have G2 : Hid (Grew w0 w2) := grew_trans G1.out g2
  clear g2 CG G1 e0 e1 e2
  by_cases hc1 : 2000 < t.count
  · rw [decide_eq_true hc1]
    clear hc1
    go_wp2
    go_ret
    exact ⟨rfl, grew_trans G0.out G2.out⟩
  rw [decide_eq_false hc1]
  have e0 : w2.cell? ⟨w.heap.size + 1, 0, none⟩ = some (.int .i64 u.kind) := cellOf (box_cells P5.out G2.out) 0 _ rfl
  have e1 : w2.cell? ⟨w.heap.size + 1, 1, none⟩ = some (.int .i64 u.r) := cellOf (box_cells P5.out G2.out) 1 _ rfl
  have e2 : w2.cell? ⟨w.heap.size + 1, 2, none⟩ = some (.slice b u.len d) := cellOf (box_cells P5.out G2.out) 2 _ rfl
  go_wp2_with fail
  refine (CG2.out w2 (grew_trans G0.out G2.out)).mono ?_
  rintro e w3 ⟨rfl, g3⟩
  have G3 : Hid (Grew w0 w3) := grew_trans G2.out g3
  clear g3 CG2 G2 e0 e1 e2
  by_cases hc2 : 2000 < u.count
  · rw [decide_eq_true hc2]
    clear hc2
    go_wp2
    go_ret
    exact ⟨rfl, grew_trans G0.out G3.out⟩
  rw [decide_eq_false hc2]
  by_cases hm : (1000 : Int) < m
  · go_wp2
    go_ret
    exact ⟨rfl, grew_trans G0.out G3.out⟩
  have CT : Hid (t.count ≤ 2000) := by show t.count ≤ 2000; omega
  clear hc1 hc2
  have e0 : w3.cell? ⟨w.heap.size, 0, none⟩ = some (.int .i64 t.kind) := cellOf (box_cells P4.out G3.out) 0 _ rfl
  have e1 : w3.cell? ⟨w.heap.size, 1, none⟩ = some (.int .i64 t.r) := cellOf (box_cells P4.out G3.out) 1 _ rfl
  have e2 : w3.cell? ⟨w.heap.size, 2, none⟩ = some (.slice a t.len c) := cellOf (box_cells P4.out G3.out) 2 _ rfl
  go_wp2_with fail
  refine (CO.out CT.out w3 (grew_trans G0.out G3.out)).mono ?_
  rintro e w4 ⟨a1, c1, rfl, t4, g4⟩
  simp only [Tv]
  have G4 : Hid (Grew w0 w4) := grew_trans G3.out g4
  have T4 : Hid (TIn w4 All t a1) := t4.all
  clear g4 t4 CO G3 e0 e1 e2
  go_wp2_with fail
  have P9 : Hid ((w4.alloc (.cells #[.int .i64 t.kind, .int .i64 t.r, .slice a1 t.len c1] 24)).heap[w4.heap.size]? = some (.cells #[.int .i64 t.kind, .int .i64 t.r, .slice a1 t.len c1] 24 (0, 0))) := blockNew w4 _ _
  have G5 : Hid (Grew w4 (w4.alloc (.cells #[.int .i64 t.kind, .int .i64 t.r, .slice a1 t.len c1] 24))) := grew_alloc w4 _
  generalize w4.alloc (.cells #[.int .i64 t.kind, .int .i64 t.r, .slice a1 t.len c1] 24) = w5 at P9 G5 ⊢
  refine (CR.out CT.out w5 a1 c1 (grew_trans G0.out (grew_trans G4.out G5.out)) (T4.out.below G5.out)).mono ?_
  intro e w6 h6
  obtain ⟨ax, cx, rfl, t6, g6⟩ := ren_out h6
  simp only [Tv]
  have G6 : Hid (Grew w5 w6) := g6
  have T6 : Hid (TIn w6 All (renX (t.ren m nm)) ax) := t6
  have e0 : w6.cell? ⟨w.heap.size, 0, none⟩ = some (.int .i64 t.kind) := cellOf (box_cells P4.out (grew_trans (grew_trans G4.out G5.out) G6.out)) 0 _ rfl
  have e1 : w6.cell? ⟨w.heap.size, 1, none⟩ = some (.int .i64 t.r) := cellOf (box_cells P4.out (grew_trans (grew_trans G4.out G5.out) G6.out)) 1 _ rfl
  have e2 : w6.cell? ⟨w.heap.size, 2, none⟩ = some (.slice a t.len c) := cellOf (box_cells P4.out (grew_trans (grew_trans G4.out G5.out) G6.out)) 2 _ rfl
  have hsz : w.heap.size < w6.heap.size := World.block_lt_of_cell? w6 ⟨w.heap.size, 0, none⟩ e0
  clear g6 t6 h6 CR
  go_wp2_with fail
  have P10 : Hid ((w6.alloc (.cells #[.int .i64 (renX (t.ren m nm)).kind, .int .i64 (renX (t.ren m nm)).r, .slice ax (renX (t.ren m nm)).len cx] 24)).heap[w6.heap.size]? = some (.cells #[.int .i64 (renX (t.ren m nm)).kind, .int .i64 (renX (t.ren m nm)).r, .slice ax (renX (t.ren m nm)).len cx] 24 (0, 0))) := blockNew w6 _ _
  have G7 : Hid (Grew w6 (w6.alloc (.cells #[.int .i64 (renX (t.ren m nm)).kind, .int .i64 (renX (t.ren m nm)).r, .slice ax (renX (t.ren m nm)).len cx] 24))) := grew_alloc w6 _
  generalize w6.alloc (.cells #[.int .i64 (renX (t.ren m nm)).kind, .int .i64 (renX (t.ren m nm)).r, .slice ax (renX (t.ren m nm)).len cx] 24) = w7 at P10 G7 ⊢
  have G07 : Hid (Grew w0 w7) := grew_trans (grew_trans (grew_trans G4.out G5.out) G6.out) G7.out
  refine (CR2.out CT.out w7 (grew_trans G0.out G07.out)).mono ?_
  intro e w8 h8
  obtain ⟨ay, cy, rfl, t8, g8⟩ := ren_out h8
  simp only [Tv]
  have G8 : Hid (Grew w7 w8) := g8
  have T8 : Hid (TIn w8 All (renX (t.ren m nm)) ay) := t8
  clear g8 t8 h8 CR2 e0 e1 e2 hsz
  go_wp2_with fail
  have P12 : Hid ((w8.alloc (.cells #[.int .i64 (renX (t.ren m nm)).kind, .int .i64 (renX (t.ren m nm)).r, .slice ay (renX (t.ren m nm)).len cy] 24)).heap[w8.heap.size]? = some (.cells #[.int .i64 (renX (t.ren m nm)).kind, .int .i64 (renX (t.ren m nm)).r, .slice ay (renX (t.ren m nm)).len cy] 24 (0, 0))) := blockNew w8 _ _
  have G9 : Hid (Grew w8 (w8.alloc (.cells #[.int .i64 (renX (t.ren m nm)).kind, .int .i64 (renX (t.ren m nm)).r, .slice ay (renX (t.ren m nm)).len cy] 24))) := grew_alloc w8 _
  generalize w8.alloc (.cells #[.int .i64 (renX (t.ren m nm)).kind, .int .i64 (renX (t.ren m nm)).r, .slice ay (renX (t.ren m nm)).len cy] 24) = w9 at P12 G9 ⊢
  have g79 : Grew w7 w9 := grew_trans G8.out G9.out
  have g69 : Grew w6 w9 := grew_trans G7.out g79
  have g59 : Grew w5 w9 := grew_trans G6.out g69
  have g09 : Grew w0 w9 := grew_trans G07.out g79
  obtain ⟨cv, qb, tx, C43, C46, C51, C54, C65, C69, C71, C77⟩ := CE.out CT.out w9 a1 c1 ax ay cx cy (grew_trans G0.out g09) ((T4.out.below G5.out).below g59) (T6.out.below g69) (T8.out.below G9.out)
  have B4 := box_cells P4.out g09
  have B5 := box_cells P5.out g09
  have B9 := box_cells P9.out g59
  have B10 := box_cells P10.out g79
  have B12 := P12.out
  have GG : Hid (Grew w w9) := grew_trans G0.out g09
  clear CE P4 P5 P9 P10 P12 G0 G4 G5 G6 G7 G8 G9 G07 g79 g69 g59 g09 T4 T6 T8 CT
  refine Code.wp_mono ?_ (r8_true B4 B5 B9 B10 B12 C43 C46 C51 C54 C65 C69 C71 C77 _ _ rfl (Nat.le_of_ble_eq_true (by kernel_rfl)) rfl rfl rfl rfl rfl rfl rfl rfl)
  rintro ee aa wx ⟨rfl, vs, rfl, hv, hb⟩
  simp only [puts, List.range', Act.put, List.setIfInBounds_toArray, List.set_cons_zero, List.set_cons_succ, hv, List.cons_append, List.nil_append]
  have HBB : Hid (Grew w wx) := grew_trans GG.out hb
  clear hb hv B4 B5 B9 B10 B12 C43 C46 C51 C54 C65 C69 C71 C77
  go_wp2
  go_ret
  exact ⟨rfl, HBB.out⟩
end Go.Proofs.YtpcnlplcpoohgabDoor
