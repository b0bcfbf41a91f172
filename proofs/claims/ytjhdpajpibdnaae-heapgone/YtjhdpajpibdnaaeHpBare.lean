/-
  Package heap: bareAll.
-/
import Derived.Test.YtjhdpajpibdnaaeHpAdd
namespace Go.Proofs.Ytjhdpajpibdnaae
open Go.ChangeShapes Go.WideShapes Go.ChangeAt Go.RowKit
set_option linter.unusedVariables false
set_option linter.unusedSimpArgs false
/-- Values that are read behind an address. -/
def VIn (w : World) (a : Option Addr) (l : List HVal) : Prop := ∀ i x, l[i]? = some x → ∃ g o, a = some ⟨g, o, none⟩ ∧ g < w.heap.size ∧ w.cell? ⟨g, o + i * 4, none⟩ = some (.int .i64 x.kind) ∧ w.cell? ⟨g, o + i * 4 + 1, none⟩ = some (.int .i64 x.region) ∧ w.cell? ⟨g, o + i * 4 + 2, none⟩ = some (.int .i64 x.thing) ∧ w.cell? ⟨g, o + i * 4 + 3, none⟩ = some (.int .i64 x.n)
theorem VIn.below {w w' : World} {a : Option Addr} {l : List HVal} (h : VIn w a l) (b : Below w.heap.size w w') : VIn w' a l := fun i x hx => by
  obtain ⟨g, o, e, hg, h1, h2, h3, h4⟩ := h i x hx
  have hk := b.block g hg
  exact ⟨g, o, e, Nat.lt_of_lt_of_le hg b.size, (World.cell?_of_block (w := w) (a := ⟨g, o + i * 4, none⟩) hk).trans h1, (World.cell?_of_block (w := w) (a := ⟨g, o + i * 4 + 1, none⟩) hk).trans h2, (World.cell?_of_block (w := w) (a := ⟨g, o + i * 4 + 2, none⟩) hk).trans h3, (World.cell?_of_block (w := w) (a := ⟨g, o + i * 4 + 3, none⟩) hk).trans h4⟩
theorem VIn.drew {w : World} {a : Option Addr} {l : List HVal} (h : VIn w a l) : VIn w.drew a l := h
theorem VIn.drewN {w : World} {a : Option Addr} {l : List HVal} (h : VIn w a l) (n : Nat) : VIn (w.drewN n) a l := h
theorem PartsAt.vin {w : World} {a : Option Addr} {c : Nat} {l : List HVal} (h : PartsAt w (.slice a l.length c) l) : VIn w a l := fun i x hx => by
  have hi := (List.getElem?_eq_some_iff.1 hx).1
  obtain ⟨g, c', e, hr⟩ := h.2 (fun e => by rw [e] at hi; simp at hi)
  simp only [Value.slice.injEq] at e
  obtain ⟨q0, q1, q2, q3⟩ := parts_cell hr hx
  exact ⟨g, 0, e.1, hr.lt, by simpa using q0, by simpa using q1, by simpa using q2, by simpa using q3⟩
/-- The first q are done. -/
def fillTo (l : List HVal) (q : Nat) : List HVal := l.take q ++ List.replicate (l.length - q) noV
theorem fillTo_len (l : List HVal) {q : Nat} (hq : q ≤ l.length) : (fillTo l q).length = l.length := by simp [fillTo]; omega
theorem fillTo_step (l : List HVal) {q : Nat} {x : HVal} (hx : l[q]? = some x) : fillTo l (q + 1) = (fillTo l q).set q x := by
  have hq := (List.getElem?_eq_some_iff.1 hx).1
  have hlt : (l.take q).length = q := by simp; omega
  unfold fillTo
  rw [List.take_add_one, hx, List.set_append_right _ _ (by omega), hlt, Nat.sub_self, show l.length - q = (l.length - (q + 1)) + 1 by omega, List.replicate_succ, List.set_cons_zero]
  simp
theorem fillTo_all (l : List HVal) : fillTo l l.length = l := by simp [fillTo]
theorem fillTo_none (l : List HVal) : fillTo l 0 = List.replicate l.length noV := by simp [fillTo]
theorem made_vals (w : World) (n : Nat) : (w.alloc (.cells (madeCells (#[.int .i64 0, .int .i64 0, .int .i64 0, .int .i64 0] : Array Value) (n * 4)) 37)).rowIs w.heap.size 37 ((List.replicate n noV).length * 4) (vCell (List.replicate n noV)) := by
  refine ⟨_, blockNew _ _ _, by simp [size_madeCells], fun i hi => ?_⟩
  have hi' : i < n * 4 := by simpa using hi
  have e : vCell (List.replicate n noV) i = .int .i64 0 := by
    unfold vCell
    rw [show (List.replicate n noV).getD (i / 4) noV = noV by simp [List.getD, List.getElem?_replicate]; split <;> rfl]
    have : i % 4 = 0 ∨ i % 4 = 1 ∨ i % 4 = 2 ∨ i % 4 = 3 := by omega
    rcases this with h | h | h | h <;> rw [h] <;> rfl
  rw [e]
  have : i % 4 < 4 := by omega
  simp [madeCells, hi']
  have : i % 4 = 0 ∨ i % 4 = 1 ∨ i % 4 = 2 ∨ i % 4 = 3 := by omega
  rcases this with h | h | h | h <;> simp [h]
theorem hmake_vals (n : Nat) (hn : n ≤ 1099511627776) (w : World) : (Instr.makeSlice 45 (.int .i64 (n : Int)) (.int .i64 (n : Int))).run Try.prog w = .ok (.slice (some ⟨w.heap.size, 0, none⟩) n n) (w.alloc (.cells (madeCells (#[.int .i64 0, .int .i64 0, .int .i64 0, .int .i64 0] : Array Value) (n * 4)) 37)) := by
  obtain ⟨i, hi, hz, hs, hb⟩ := hInfoV
  have := run_make (P := Try.prog) w 45 37 i _ hUnderVs hi hz .i64 .i64 n n (by omega) (Int.le_refl _) (by rw [hb]; omega) (by omega)
  rw [hs] at this
  simpa [Value.cells] using this
set_option maxHeartbeats 1000000 in
set_option maxRecDepth 100000 in
theorem hbareAll_any {w : World} {a : Option Addr} {n c : Nat} {l : List HVal} (hn : l.length = n) (hb : n ≤ 1099511627776) (hl : VIn w a l) :
    Calls Try.prog 31 #[.slice a n c] w fun e w' => ∃ g, e = .returned (.slice (some ⟨g, 0, none⟩) n n) ∧ w.heap.size ≤ g ∧ w'.rowIs g 37 (n * 4) (vCell (l.map HVal.bare)) ∧ Below w.heap.size w w' := by
  have hmk := hmake_vals n hb w
  have M0 := hidH (made_vals w n)
  have B0 := hidH (belA w (.cells (madeCells (#[.int .i64 0, .int .i64 0, .int .i64 0, .int .i64 0] : Array Value) (n * 4)) 37))
  have HL := hidH hl
  have HN := hidH hn
  clear hl hn
  go_enter Try.func31, Try.ntmps31
  go_upto_region 2 with fail
  generalize w.alloc (.cells (madeCells (#[.int .i64 0, .int .i64 0, .int .i64 0, .int .i64 0] : Array Value) (n * 4)) 37) = w1 at M0 B0 ⊢
  clear hmk
  obtain ⟨g, hg⟩ : ∃ g, g = w.heap.size := ⟨_, rfl⟩
  have HG : Hid (w.heap.size ≤ g) := by show _ ≤ _; omega
  rw [← hg] at M0 ⊢
  clear hg
  go_wp2_with fail
  go_loopw [11] (fun i wr => ∃ q : Nat, q ≤ n ∧ i = .int .i64 q ∧ wr.rowIs g 37 ((fillTo (l.map HVal.bare) q).length * 4) (vCell (fillTo (l.map HVal.bare) q)) ∧ Below w.heap.size w wr) (fun i _ => n - (intOf i).toNat)
  case atStart =>
    refine ⟨0, Nat.zero_le _, rfl, ?_, B0.out⟩
    rw [fillTo_none, List.length_map, HN.out]
    exact M0.out
  case round =>
    obtain ⟨q, hq, rfl, hR, hB⟩ := hrel
    have HR := hidH hR
    have HB := hidH hB
    clear hR hB
    by_cases hlt : q < n
    · have hlt' : (q : Int) < n := by omega
      obtain ⟨x, hx⟩ : ∃ x, l[q]? = some x := ⟨_, List.getElem?_eq_getElem (by rw [HN.out]; exact hlt)⟩
      obtain ⟨g1, o1, rfl, hg1, c0, c1, c2, c3⟩ := (VIn.below HL.out HB.out) q x hx
      have CB := hidH (fun wx => hbare_any wx x)
      have HX := hidH hx
      obtain ⟨y0, y1, y2, y3, hy⟩ : ∃ y0 y1 y2 y3, x.bare = (⟨y0, y1, y2, y3⟩ : HVal) := ⟨_, _, _, _, rfl⟩
      have HY := hidH hy
      rw [hy] at CB
      obtain ⟨xk, xr, xt, xn⟩ := x
      simp only at c0 c1 c2 c3
      have PUT : Hid (∀ w3, Below wr.heap.size wr w3 → (w3.cell? ⟨g, q * 4, none⟩).isSome = true ∧ (w3.cell? ⟨g, q * 4 + 1, none⟩).isSome = true ∧ (w3.cell? ⟨g, q * 4 + 2, none⟩).isSome = true ∧ (w3.cell? ⟨g, q * 4 + 3, none⟩).isSome = true ∧ (∀ i, w3.frozen? ⟨g, i, none⟩ = false) ∧ ((((w3.setCell ⟨g, q * 4, none⟩ (.int .i64 y0)).setCell ⟨g, q * 4 + 1, none⟩ (.int .i64 y1)).setCell ⟨g, q * 4 + 2, none⟩ (.int .i64 y2)).setCell ⟨g, q * 4 + 3, none⟩ (.int .i64 y3)).rowIs g 37 ((fillTo (l.map HVal.bare) (q + 1)).length * 4) (vCell (fillTo (l.map HVal.bare) (q + 1))) ∧ Below w.heap.size w ((((w3.setCell ⟨g, q * 4, none⟩ (.int .i64 y0)).setCell ⟨g, q * 4 + 1, none⟩ (.int .i64 y1)).setCell ⟨g, q * 4 + 2, none⟩ (.int .i64 y2)).setCell ⟨g, q * 4 + 3, none⟩ (.int .i64 y3))) := by
        intro w3 b3
        have h3 := HR.out.of_block (b3.block g HR.out.lt)
        have hll : (l.map HVal.bare).length = n := by rw [List.length_map, HN.out]
        have hq' : q < (fillTo (l.map HVal.bare) q).length := by rw [fillTo_len _ (by omega), hll]; exact hlt
        have hxm : (l.map HVal.bare)[q]? = some ⟨y0, y1, y2, y3⟩ := by rw [List.getElem?_map, HX.out, ← HY.out]; rfl
        obtain ⟨z0, z1, z2, z3⟩ := parts_cell h3 (List.getElem?_eq_getElem hq')
        refine ⟨by rw [z0]; rfl, by rw [z1]; rfl, by rw [z2]; rfl, by rw [z3]; rfl, h3.frozen, ?_, ?_⟩
        · rw [fillTo_step _ hxm]
          exact parts_put h3 hq' y0 y1 y2 y3
        · have b := HB.out.trans (b3.mono HB.out.size)
          exact (((b.setCell (p := ⟨g, q * 4, none⟩) HG.out _).setCell (p := ⟨g, q * 4 + 1, none⟩) HG.out _).setCell (p := ⟨g, q * 4 + 2, none⟩) HG.out _).setCell (p := ⟨g, q * 4 + 3, none⟩) HG.out _
      clear hx hy hg1
      go_wp2_with fail
      refine (CB.out _).mono ?_
      rintro e w3 ⟨rfl, b3⟩
      have b3' : Below wr.heap.size wr w3 := (belA wr _).trans (b3.mono (by simp))
      obtain ⟨p0, p1, p2, p3, pf, pr, pb⟩ := PUT.out w3 b3'
      obtain ⟨z0, p0⟩ := Option.isSome_iff_exists.1 p0
      obtain ⟨z1, p1⟩ := Option.isSome_iff_exists.1 p1
      obtain ⟨z2, p2⟩ := Option.isSome_iff_exists.1 p2
      obtain ⟨z3, p3⟩ := Option.isSome_iff_exists.1 p3
      have f0 := pf (q * 4)
      have f1 := pf (q * 4 + 1)
      have f2 := pf (q * 4 + 2)
      have f3 := pf (q * 4 + 3)
      have PR := hidH pr
      have PB := hidH pb
      clear pf pr pb PUT CB b3 b3' HX HY HR HB c0 c1 c2 c3
      go_wp2
      go_roundw
      case rel => exact ⟨q + 1, by omega, by go_num, PR.out, PB.out⟩
      case measure => simp [intOf]; omega
    · have hqn : q = n := by omega
      subst hqn
      go_wp2
      go_ret
      refine ⟨g, rfl, HG.out, ?_, HB.out⟩
      have := HR.out
      have hll : (l.map HVal.bare).length = q := by rw [List.length_map, HN.out]
      rw [show fillTo (l.map HVal.bare) q = l.map HVal.bare by rw [← hll]; exact fillTo_all _, hll] at this
      exact this
end Go.Proofs.Ytjhdpajpibdnaae
