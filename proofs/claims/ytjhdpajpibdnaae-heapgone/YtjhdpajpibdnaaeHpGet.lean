/-
  Package heap: Len, Get, Set.
-/
import Derived.Test.YtjhdpajpibdnaaeHpParts
namespace Go.Proofs.Ytjhdpajpibdnaae
open Go.ChangeShapes Go.WideShapes Go.ChangeAt Go.RowKit
set_option linter.unusedVariables false
set_option linter.unusedSimpArgs false
/-- What parts answers. -/
def PartsOut (w : World) (h : HHeap) (G : HG) (v : HVal) (a : Option Addr) (n c : Nat) : Prop :=
  ∀ t, h.thing v = some t → n = t.l.length ∧ ∃ p tv pv, 0 ≤ v.thing ∧ h.place v.region = some p ∧ p.l[v.thing.toNat]? = some t ∧ RegIn w (G.g v.region.toNat) v.region.toNat p (G.S v.region.toNat) tv pv ∧ pv v.thing.toNat = .slice a n c
theorem knd_eq (t : HThing) (kd : Int) : (t.knd == kd) = (decide (kd = 3 ∨ kd = 4) && (t.arr == decide (kd = 4))) := by
  unfold HThing.knd
  by_cases h3 : kd = 3
  · subst h3; cases t.arr <;> rfl
  · by_cases h4 : kd = 4
    · subst h4; cases t.arr <;> rfl
    · cases t.arr <;> simp [h3, h4] <;> omega
theorem hparts_any {w : World} {b : Nat} {O : Nat → Prop} {h : HHeap} {G : HG} (H : HIn w b O h G) (v : HVal) (hv : v.ok) (hpl : ∀ (k : Nat) (p : HPlace), h.L[k]? = some p → p.l.length ≤ 4611686018427387904) :
    Calls Try.prog 34 #[.pointer (some ⟨b, 0, none⟩), vAgg v] w fun e w' => (∃ a n c, e = .returned (.tuple #[.slice a n c, .bool (h.thing v).isSome]) ∧ PartsOut w h G v a n c) ∧ Below w.heap.size w w' := by
  obtain ⟨kd, rg, th, n⟩ := v
  have no : ∀ (hn : h.thing ⟨kd, rg, th, n⟩ = none) (e : Ending) (w' : World), (e = .returned (.tuple #[.slice none 0 0, .bool false]) ∧ Below w.heap.size w w') → (∃ a n' c, e = .returned (.tuple #[.slice a n' c, .bool (h.thing ⟨kd, rg, th, n⟩).isSome]) ∧ PartsOut w h G ⟨kd, rg, th, n⟩ a n' c) ∧ Below w.heap.size w w' := by
    rintro hn e w' ⟨rfl, hb⟩
    exact ⟨⟨none, 0, 0, by rw [hn]; rfl, fun t ht => by rw [hn] at ht; cases ht⟩, hb⟩
  cases hp : h.place rg with
  | none => exact (hparts_none H kd rg th n hv.2.1 hp).mono (no (by unfold HHeap.thing; simp [hp]))
  | some p =>
    obtain ⟨h0, h1, h2⟩ := HHeap.place_some hp
    obtain ⟨tv, pv, R⟩ := H.reg _ p h1 h2
    have hpl' := hpl _ p h1
    by_cases hneg : th < 0
    · exact (hparts_neg H kd rg th n hv.2.1 hp hneg hpl' R).mono (no (by unfold HHeap.thing; simp [hp, hneg]))
    by_cases hfar : (p.l.length : Int) ≤ th
    · exact (hparts_far H kd rg th n hv.2.1 hp hfar hpl' R).mono (no (by unfold HHeap.thing; simp [hp, hneg, List.getElem?_eq_none (show p.l.length ≤ th.toNat by omega)]))
    obtain ⟨i, rfl⟩ := Int.eq_ofNat_of_zero_le (show 0 ≤ th by omega)
    obtain ⟨t, ht⟩ : ∃ t, p.l[i]? = some t := ⟨_, List.getElem?_eq_getElem (show i < p.l.length by omega)⟩
    obtain ⟨⟨pa, pc, hpv⟩, -⟩ := R.part i t ht
    refine (hparts_some H kd rg n i hv.2.1 hp ht hpl' R).mono ?_
    rintro e w' ⟨rfl, hb⟩
    have es : (h.thing ⟨kd, rg, (i : Int), n⟩).isSome = (t.knd == kd) := by
      rw [knd_eq]
      unfold HHeap.thing
      simp only [hp, Int.toNat_natCast, ht, if_neg hneg]
      by_cases hk : kd = 3 ∨ kd = 4
      · rw [if_pos hk, decide_eq_true hk]
        by_cases hq : t.arr = decide (kd = 4)
        · rw [if_pos hq, hq]; simp
        · have hq' : (t.arr == decide (kd = 4)) = false := beq_false_of_ne hq
          rw [if_neg hq, hq']; rfl
      · rw [if_neg hk, decide_eq_false hk]; rfl
    refine ⟨⟨pa, t.l.length, pc, by rw [es, hpv], fun t' ht' => ?_⟩, hb⟩
    have : t' = t := by
      unfold HHeap.thing at ht'
      simp only [hp, Int.toNat_natCast, ht, if_neg hneg] at ht'
      split at ht'
      · split at ht'
        · cases ht'; rfl
        · cases ht'
      · cases ht'
    subst this
    exact ⟨rfl, p, tv, pv, Int.natCast_nonneg i, hp, by simpa using ht, R, by simpa using hpv⟩
set_option maxHeartbeats 1000000 in
set_option maxRecDepth 100000 in
theorem hlen_any {w : World} {b : Nat} {O : Nat → Prop} {h : HHeap} {G : HG} (H : HIn w b O h G) (v : HVal) (hv : v.ok) (hpl : ∀ (k : Nat) (p : HPlace), h.L[k]? = some p → p.l.length ≤ 4611686018427387904) :
    Calls Try.prog 22 #[.pointer (some ⟨b, 0, none⟩), vAgg v] w fun e w' => e = .returned (.tuple #[.int .i64 (h.len v).1, .int .i64 (h.len v).2]) ∧ Below w.heap.size w w' := by
  have B0 := hidH (belA w (.cells #[.int .i64 v.kind, .int .i64 v.region, .int .i64 v.thing, .int .i64 v.n] 37))
  have BX := hidH (blockNew w #[.int .i64 v.kind, .int .i64 v.region, .int .i64 v.thing, .int .i64 v.n] 37)
  have C := hidH (hparts_any (H.below B0.out) v hv hpl)
  have E := hidH (show h.len v = match h.thing v with | none => (0, 20) | some t => (t.l.length, 0) from rfl)
  clear H hv hpl
  generalize hlv : h.len v = lv at E ⊢
  clear hlv
  go_enter Try.func22, Try.ntmps22
  go_upto_region 1 with fail
  generalize w.alloc (.cells #[.int .i64 v.kind, .int .i64 v.region, .int .i64 v.thing, .int .i64 v.n] 37) = w1 at B0 BX C ⊢
  have B1 := B0
  generalize w.heap.size = X at BX ⊢
  have x0 := cellOf BX.out 0 _ rfl
  have x1 := cellOf BX.out 1 _ rfl
  have x2 := cellOf BX.out 2 _ rfl
  have x3 := cellOf BX.out 3 _ rfl
  go_wp2_with fail
  refine C.out.mono ?_
  rintro e w2 ⟨⟨a, n, c, rfl, P⟩, b2⟩
  have BL := hidH (B1.out.trans (b2.mono B1.out.size))
  cases ht : h.thing v with
  | none =>
    have E2 : Hid (lv = (0, 20)) := by show _ = _; rw [E.out, ht]
    simp only [Option.isSome_none]
    clear E C P ht x0 x1 x2 x3 BX B0 B1 b2
    go_wp2
    go_ret2
    exact ⟨by rw [E2.out]; rfl, BL.out⟩
  | some t =>
    have hn := (P t ht).1
    have E2 : Hid (lv = ((n : Int), 0)) := by show _ = _; rw [E.out, ht, hn]
    simp only [Option.isSome_some]
    clear E C P ht x0 x1 x2 x3 BX B0 B1 b2 hn
    go_wp2
    go_ret2
    exact ⟨by rw [E2.out]; rfl, BL.out⟩
theorem vcell_at {l : List HVal} {k j : Nat} {x : HVal} (hx : l[k]? = some x) (hj : j < 4) : vCell l (k * 4 + j) = vAt x j := by
  unfold vCell
  rw [show (k * 4 + j) / 4 = k by omega, show (k * 4 + j) % 4 = j by omega]
  simp [List.getD, hx]
theorem parts_cell {w : World} {g : Nat} {l : List HVal} (h : w.rowIs g 37 (l.length * 4) (vCell l)) {k : Nat} {x : HVal} (hx : l[k]? = some x) : w.cell? ⟨g, k * 4, none⟩ = some (.int .i64 x.kind) ∧ w.cell? ⟨g, k * 4 + 1, none⟩ = some (.int .i64 x.region) ∧ w.cell? ⟨g, k * 4 + 2, none⟩ = some (.int .i64 x.thing) ∧ w.cell? ⟨g, k * 4 + 3, none⟩ = some (.int .i64 x.n) := by
  have hk := (List.getElem?_eq_some_iff.1 hx).1
  have c : ∀ j, j < 4 → w.cell? ⟨g, k * 4 + j, none⟩ = some (vAt x j) := fun j hj => by rw [← vcell_at hx hj]; exact h.cell (by omega)
  exact ⟨c 0 (by omega), c 1 (by omega), c 2 (by omega), c 3 (by omega)⟩
set_option maxHeartbeats 1000000 in
set_option maxRecDepth 100000 in
theorem hget_any {w : World} {b : Nat} {O : Nat → Prop} {h : HHeap} {G : HG} (H : HIn w b O h G) (v : HVal) (hv : v.ok) (k : Int) (hpl : ∀ (k : Nat) (p : HPlace), h.L[k]? = some p → p.l.length ≤ 4611686018427387904) (hpt : ∀ t, h.thing v = some t → t.l.length ≤ 4611686018427387904) :
    Calls Try.prog 18 #[.pointer (some ⟨b, 0, none⟩), vAgg v, .int .i64 k] w fun e w' => e = .returned (.tuple #[vAgg (h.get v k).1, .int .i64 (h.get v k).2]) ∧ Below w.heap.size w w' := by
  have B0 := hidH (belAA w (.cells #[.int .i64 v.kind, .int .i64 v.region, .int .i64 v.thing, .int .i64 v.n] 37) (.cells #[.int .i64 0, .int .i64 0, .int .i64 0, .int .i64 0] 37))
  have BX := hidH (newA w #[.int .i64 v.kind, .int .i64 v.region, .int .i64 v.thing, .int .i64 v.n] 37 (.cells #[.int .i64 0, .int .i64 0, .int .i64 0, .int .i64 0] 37))
  have BR := hidH (newAA w (.cells #[.int .i64 v.kind, .int .i64 v.region, .int .i64 v.thing, .int .i64 v.n] 37) #[.int .i64 0, .int .i64 0, .int .i64 0, .int .i64 0] 37)
  have H1 := hidH (H.below B0.out)
  have C := hidH (hparts_any H1.out v hv hpl)
  have E := hidH (show h.get v k = match h.thing v with | none => (noV, 20) | some t => if k < 0 then (noV, 1) else match t.l[k.toNat]? with | none => (noV, 1) | some x => (x, 0) from rfl)
  have HT := hidH hpt
  clear H hv hpl hpt
  generalize hlv : h.get v k = lv at E ⊢
  clear hlv
  go_enter Try.func18, Try.ntmps18
  go_upto_region 1 with fail
  generalize (w.alloc (.cells #[.int .i64 v.kind, .int .i64 v.region, .int .i64 v.thing, .int .i64 v.n] 37)).alloc (.cells #[.int .i64 0, .int .i64 0, .int .i64 0, .int .i64 0] 37) = w1 at B0 BX BR C H1 ⊢
  obtain ⟨X, hX⟩ : ∃ X, X = w.heap.size := ⟨_, rfl⟩
  obtain ⟨R, hR⟩ : ∃ R, R = X + 1 := ⟨_, rfl⟩
  have HR : Hid (w.heap.size ≤ R) := by show _ ≤ _; omega
  rw [← hX] at BX BR ⊢
  rw [← hR] at BR ⊢
  clear hX hR
  have x0 := cellOf BX.out 0 _ rfl
  have x1 := cellOf BX.out 1 _ rfl
  have x2 := cellOf BX.out 2 _ rfl
  have x3 := cellOf BX.out 3 _ rfl
  go_wp2_with fail
  refine C.out.mono ?_
  rintro e w2 ⟨⟨a, n, c, rfl, P⟩, b2⟩
  have BL := hidH (B0.out.trans (b2.mono B0.out.size))
  have BR2 := hidH ((b2.block R (lt_of_block BR.out)).trans BR.out)
  clear x0 x1 x2 x3 C BX B0
  have r0 := cellOf BR2.out 0 _ rfl
  have r1 := cellOf BR2.out 1 _ rfl
  have r2 := cellOf BR2.out 2 _ rfl
  have r3 := cellOf BR2.out 3 _ rfl
  have f0 := freeOf BR2.out 0
  have f1 := freeOf BR2.out 1
  have f2 := freeOf BR2.out 2
  have f3 := freeOf BR2.out 3
  have fin : Hid (∀ x0 x1 x2 x3 : Int, Below w.heap.size w ((((w2.setCell ⟨R, 0, none⟩ (.int .i64 x0)).setCell ⟨R, 1, none⟩ (.int .i64 x1)).setCell ⟨R, 2, none⟩ (.int .i64 x2)).setCell ⟨R, 3, none⟩ (.int .i64 x3)) ∧ ((((w2.setCell ⟨R, 0, none⟩ (.int .i64 x0)).setCell ⟨R, 1, none⟩ (.int .i64 x1)).setCell ⟨R, 2, none⟩ (.int .i64 x2)).setCell ⟨R, 3, none⟩ (.int .i64 x3)).heap[R]? = some (.cells #[.int .i64 x0, .int .i64 x1, .int .i64 x2, .int .i64 x3] 37 (0, 0))) := fun x0 x1 x2 x3 => ⟨st4_below BL.out HR.out _ _ _ _, st4_blk BR2.out _ _ _ _⟩
  cases ht : h.thing v with
  | none =>
    have E2 : Hid (lv = (noV, 20)) := by show _ = _; rw [E.out, ht]
    simp only [Option.isSome_none]
    clear E P ht b2 BR BR2 BL HR H1 HT
    go_wp2
    have FF := fin.out 0 0 0 0
    generalize ((((w2.setCell ⟨R, 0, none⟩ (.int .i64 0)).setCell ⟨R, 1, none⟩ (.int .i64 0)).setCell ⟨R, 2, none⟩ (.int .i64 0)).setCell ⟨R, 3, none⟩ (.int .i64 0)) = w99 at FF ⊢
    have e0 := cellOf FF.2 0 _ rfl
    have e1 := cellOf FF.2 1 _ rfl
    have e2 := cellOf FF.2 2 _ rfl
    have e3 := cellOf FF.2 3 _ rfl
    exact bodyPost_ret (v := .tuple #[.agg #[.int .i64 0, .int .i64 0, .int .i64 0, .int .i64 0], .int .i64 20]) (by simp [results, Try.results18, go_sem, e0, e1, e2, e3]) rfl ⟨by rw [E2.out] <;> rfl, FF.1⟩
  | some t =>
    obtain ⟨hn, p, tv, pv, h0, hp, hi, RI, hs⟩ := P t ht
    have RI2 := RI.keep (w' := w2) (fun x _ hx => b2.block x hx)
    have hnl : n ≤ 4611686018427387904 := by rw [hn]; exact HT.out t ht
    have CP := hidH (fun wx => hisPart_any wx a n c k hnl)
    have E1 : Hid (lv = (if k < 0 then (noV, 1) else match t.l[k.toNat]? with | none => (noV, 1) | some x => (x, 0) : HVal × Int)) := by show _ = _; rw [E.out, ht]
    have PA : Hid (PartsAt w2 (.slice a n c) t.l) := by show PartsAt _ _ _; rw [← hs]; exact RI2.part _ t hi
    have HN := hidH hn
    simp only [Option.isSome_some]
    clear E P ht b2 BR BR2 BL HR H1 HT RI RI2 hs hi hp h0 hn
    by_cases hk : 0 ≤ k ∧ k < (n : Int)
    · have hd : (decide (0 ≤ k) && decide (k < (n : Int))) = true := by simp [hk.1, hk.2]
      rw [hd] at CP
      clear hd
      obtain ⟨kn, rfl⟩ := Int.eq_ofNat_of_zero_le hk.1
      have hkn : kn < t.l.length := by rw [← HN.out]; omega
      obtain ⟨x, hx⟩ : ∃ x, t.l[kn]? = some x := ⟨_, List.getElem?_eq_getElem hkn⟩
      have E2 : Hid (lv = (x, 0)) := by show _ = _; rw [E1.out, if_neg (by omega), Int.toNat_natCast, hx]
      obtain ⟨g, c', e', hr⟩ := PA.out.2 (fun e => by rw [e] at hkn; simp at hkn)
      simp only [Value.slice.injEq] at e'
      obtain ⟨rfl, e1, rfl⟩ := e'
      obtain ⟨q0, q1, q2, q3⟩ := parts_cell hr hx
      have hkn' : kn < n := by omega
      have hkni : (kn : Int) < n := by omega
      clear hk hkn hr hx E1 PA HN e1
      obtain ⟨xk, xr, xt, xn⟩ := x
      simp only at q0 q1 q2 q3
      go_wp2_with (go_at_call 35; refine (CP.out _).mono ?_; rintro e w' ⟨rfl, hw⟩; have hw := hw.symm; subst hw)
      have FF := fin.out xk xr xt xn
      generalize ((((w2.setCell ⟨R, 0, none⟩ (.int .i64 xk)).setCell ⟨R, 1, none⟩ (.int .i64 xr)).setCell ⟨R, 2, none⟩ (.int .i64 xt)).setCell ⟨R, 3, none⟩ (.int .i64 xn)) = w99 at FF ⊢
      have e0 := cellOf FF.2 0 _ rfl
      have e1 := cellOf FF.2 1 _ rfl
      have e2 := cellOf FF.2 2 _ rfl
      have e3 := cellOf FF.2 3 _ rfl
      exact bodyPost_ret (v := .tuple #[.agg #[.int .i64 xk, .int .i64 xr, .int .i64 xt, .int .i64 xn], .int .i64 0]) (by simp [results, Try.results18, go_sem, e0, e1, e2, e3]) rfl ⟨by rw [E2.out] <;> rfl, FF.1⟩
    · have hd : (decide (0 ≤ k) && decide (k < (n : Int))) = false := by
        by_cases h1 : 0 ≤ k
        · rw [decide_eq_false (show ¬ k < (n : Int) by omega)]; simp
        · rw [decide_eq_false h1]; rfl
      rw [hd] at CP
      have E2 : Hid (lv = (noV, 1)) := by
        show _ = _
        rw [E1.out]
        by_cases h1 : k < 0
        · rw [if_pos h1]
        · rw [if_neg h1, List.getElem?_eq_none (by rw [← HN.out]; omega)]
      clear hk hd E1 PA HN
      go_wp2_with (go_at_call 35; refine (CP.out _).mono ?_; rintro e w' ⟨rfl, hw⟩; have hw := hw.symm; subst hw)
      have FF := fin.out 0 0 0 0
      generalize ((((w2.setCell ⟨R, 0, none⟩ (.int .i64 0)).setCell ⟨R, 1, none⟩ (.int .i64 0)).setCell ⟨R, 2, none⟩ (.int .i64 0)).setCell ⟨R, 3, none⟩ (.int .i64 0)) = w99 at FF ⊢
      have e0 := cellOf FF.2 0 _ rfl
      have e1 := cellOf FF.2 1 _ rfl
      have e2 := cellOf FF.2 2 _ rfl
      have e3 := cellOf FF.2 3 _ rfl
      exact bodyPost_ret (v := .tuple #[.agg #[.int .i64 0, .int .i64 0, .int .i64 0, .int .i64 0], .int .i64 1]) (by simp [results, Try.results18, go_sem, e0, e1, e2, e3]) rfl ⟨by rw [E2.out] <;> rfl, FF.1⟩
end Go.Proofs.Ytjhdpajpibdnaae
