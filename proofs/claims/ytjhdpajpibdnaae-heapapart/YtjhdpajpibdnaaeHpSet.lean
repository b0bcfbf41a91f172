/-
  Package heap: Set.
-/
import Derived.Test.YtjhdpajpibdnaaeHpGet
namespace Go.Proofs.Ytjhdpajpibdnaae
open Go.ChangeShapes Go.WideShapes Go.ChangeAt Go.RowKit
set_option linter.unusedVariables false
set_option linter.unusedSimpArgs false
theorem HIn.regSame {w w' : World} {b : Nat} {O : Nat → Prop} {h : HHeap} {G : HG} (H : HIn w b O h G) {k : Nat} {p p' : HPlace} (hp : h.L[k]? = some p) (ht : p.there = true) (ht' : p'.there = true) (hr : RegAt w' (G.g k) k p' (G.S k)) (hs : Step (G.S k) (G.S k) w w') :
    HIn w' b O { h with L := h.L.set k p' } G := by
  have R := H.regTo hp ht ht' hr (fun x hx => Nat.lt_of_lt_of_le (H.lt x (H.os k x hx).1) hs.size) hs
  have e1 : (fun x => O x ∨ G.S k x) = O := funext fun x => propext ⟨fun h => h.elim id (fun h => (H.os k x h).1), Or.inl⟩
  have e2 : ({ G with S := fun j => if j = k then G.S k else G.S j } : HG) = G := by
    have : (fun j => if j = k then G.S k else G.S j) = G.S := funext fun j => by
      by_cases e : j = k
      · rw [if_pos e, e]
      · rw [if_neg e]
    rw [this]
  rwa [e1, e2] at R
theorem parts_put {w : World} {g : Nat} {l : List HVal} (h : w.rowIs g 37 (l.length * 4) (vCell l)) {k : Nat} (hk : k < l.length) (x0 x1 x2 x3 : Int) :
    ((((w.setCell ⟨g, k * 4, none⟩ (.int .i64 x0)).setCell ⟨g, k * 4 + 1, none⟩ (.int .i64 x1)).setCell ⟨g, k * 4 + 2, none⟩ (.int .i64 x2)).setCell ⟨g, k * 4 + 3, none⟩ (.int .i64 x3)).rowIs g 37 ((l.set k ⟨x0, x1, x2, x3⟩).length * 4) (vCell (l.set k ⟨x0, x1, x2, x3⟩)) := by
  rw [List.length_set]
  refine ((((h.set (k * 4) (.int .i64 x0)).set (k * 4 + 1) (.int .i64 x1)).set (k * 4 + 2) (.int .i64 x2)).set (k * 4 + 3) (.int .i64 x3)).congr fun i hi => ?_
  by_cases e : i / 4 = k
  · have hx : (l.set k ⟨x0, x1, x2, x3⟩)[k]? = some ⟨x0, x1, x2, x3⟩ := by simp [hk]
    obtain ⟨j, hj, rfl⟩ : ∃ j, j < 4 ∧ i = k * 4 + j := ⟨i % 4, by omega, by omega⟩
    rw [vcell_at hx hj]
    match j, hj with
    | 0, _ => simp [vAt]
    | 1, _ => simp [vAt]
    | 2, _ => simp [vAt]
    | 3, _ => simp [vAt]
    | j + 4, hj => omega
  · rw [if_neg (by omega), if_neg (by omega), if_neg (by omega), if_neg (by omega)]
    unfold vCell
    simp [List.getD, List.getElem?_set_ne (show k ≠ i / 4 from fun e' => e e'.symm)]
theorem putk_other {w : World} {g k i : Nat} (hi : i ≠ g) (x0 x1 x2 x3 : Int) : ((((w.setCell ⟨g, k * 4, none⟩ (.int .i64 x0)).setCell ⟨g, k * 4 + 1, none⟩ (.int .i64 x1)).setCell ⟨g, k * 4 + 2, none⟩ (.int .i64 x2)).setCell ⟨g, k * 4 + 3, none⟩ (.int .i64 x3)).heap[i]? = w.heap[i]? := by
  rw [Below.heap_setCell _ _ _ _ hi, Below.heap_setCell _ _ _ _ hi, Below.heap_setCell _ _ _ _ hi, Below.heap_setCell _ _ _ _ hi]
theorem thing_parts {h : HHeap} {v : HVal} {t : HThing} (ht : h.thing v = some t) : v.kind = t.knd ∧ (v.kind = 3 ∨ v.kind = 4) ∧ (t.arr = decide (v.kind = 4)) := by
  unfold HHeap.thing at ht
  split at ht
  · rename_i hk
    split at ht
    · cases ht
    · split at ht
      · cases ht
      · split at ht
        · cases ht
        · split at ht
          · rename_i ha
            cases ht
            refine ⟨?_, hk, ha⟩
            unfold HThing.knd
            rw [ha]
            rcases hk with e | e <;> rw [e] <;> rfl
          · cases ht
  · cases ht
set_option maxHeartbeats 1000000 in
set_option maxRecDepth 100000 in
theorem hset_any {w : World} {b : Nat} {O : Nat → Prop} {h : HHeap} {G : HG} (H : HIn w b O h G) (v : HVal) (hv : v.ok) (k : Int) (x : HVal) (hpl : ∀ (k : Nat) (p : HPlace), h.L[k]? = some p → p.l.length ≤ 4611686018427387904) (hpt : ∀ t, h.thing v = some t → t.l.length ≤ 4611686018427387904) :
    Calls Try.prog 20 #[.pointer (some ⟨b, 0, none⟩), vAgg v, .int .i64 k, vAgg x] w fun e w' => e = .returned (.int .i64 (h.set v k x.bare).1) ∧ HIn w' b O (h.set v k x.bare).2 G ∧ Step O O w w' := by
  have B0 := hidH (belAA w (.cells #[.int .i64 v.kind, .int .i64 v.region, .int .i64 v.thing, .int .i64 v.n] 37) (.cells #[.int .i64 x.kind, .int .i64 x.region, .int .i64 x.thing, .int .i64 x.n] 37))
  have BX := hidH (newA w #[.int .i64 v.kind, .int .i64 v.region, .int .i64 v.thing, .int .i64 v.n] 37 (.cells #[.int .i64 x.kind, .int .i64 x.region, .int .i64 x.thing, .int .i64 x.n] 37))
  have BR := hidH (newAA w (.cells #[.int .i64 v.kind, .int .i64 v.region, .int .i64 v.thing, .int .i64 v.n] 37) #[.int .i64 x.kind, .int .i64 x.region, .int .i64 x.thing, .int .i64 x.n] 37)
  have H1 := hidH (H.below B0.out)
  have H0 := hidH H
  have C := hidH (hparts_any H1.out v hv hpl)
  have HT := hidH hpt
  clear H hv hpl hpt
  go_enter Try.func20, Try.ntmps20
  go_upto_region 1 with fail
  generalize ((w.alloc (.cells #[.int .i64 v.kind, .int .i64 v.region, .int .i64 v.thing, .int .i64 v.n] 37)).alloc (.cells #[.int .i64 x.kind, .int .i64 x.region, .int .i64 x.thing, .int .i64 x.n] 37)) = w1 at B0 BX BR C H1 ⊢
  obtain ⟨X, hX⟩ : ∃ X, X = w.heap.size := ⟨_, rfl⟩
  obtain ⟨R, hR⟩ : ∃ R, R = X + 1 := ⟨_, rfl⟩
  rw [← hX] at BX BR ⊢
  rw [← hR] at BR ⊢
  clear hX hR
  have x0 := cellOf BX.out 0 _ rfl
  have x1 := cellOf BX.out 1 _ rfl
  have x2 := cellOf BX.out 2 _ rfl
  have x3 := cellOf BX.out 3 _ rfl
  go_wp2_with fail
  refine C.out.mono ?_
  rintro e w2 ⟨⟨a, n, c, rfl, P⟩, b2⟩
  have BL := hidH (B0.out.trans (b2.mono B0.out.size))
  have BX2 := hidH ((b2.block X (lt_of_block BX.out)).trans BX.out)
  have BR2 := hidH ((b2.block R (lt_of_block BR.out)).trans BR.out)
  have ST : Hid (HIn w2 b O h G ∧ Step O O w w2) := ⟨H1.out.below b2, Step.of_below BL.out (fun k hk => .inl hk)⟩
  clear x0 x1 x2 x3 C BX BR B0
  have x0 := cellOf BX2.out 0 _ rfl
  have r0 := cellOf BR2.out 0 _ rfl
  have r1 := cellOf BR2.out 1 _ rfl
  have r2 := cellOf BR2.out 2 _ rfl
  have r3 := cellOf BR2.out 3 _ rfl
  cases ht : h.thing v with
  | none =>
    have E : Hid (h.set v k x.bare = (20, h)) := by show _ = _; unfold HHeap.set; rw [ht]
    simp only [Option.isSome_none]
    clear ht P b2 H1 HT BX2 BR2
    go_wp2
    go_ret
    rw [E.out]
    exact ⟨rfl, ST.out⟩
  | some t =>
    obtain ⟨hn, p, tv, pv, h0, hp, hi, RI, hs⟩ := P t ht
    have RI2 := hidH (RI.keep (w' := w2) (fun x _ hx => b2.block x hx))
    have hnl : n ≤ 4611686018427387904 := by rw [hn]; exact HT.out t ht
    have CP := hidH (fun wx => hisPart_any wx a n c k hnl)
    have CB := hidH (fun wx => hbare_any wx x)
    obtain ⟨hk1, hk2, hk3⟩ := thing_parts ht
    have E : Hid (h.set v k x.bare = if t.arr = true ∧ x.kind ≠ 1 then (20, h) else if k < 0 ∨ n ≤ k.toNat then (1, h) else (0, { h with L := h.L.set v.region.toNat { p with l := p.l.set v.thing.toNat { t with l := t.l.set k.toNat x.bare } } })) := by
      show _ = _
      unfold HHeap.set
      rw [ht, hp, bare_kind, hn]
    have HP := hidH hp
    have HI := hidH hi
    have HS := hidH hs
    have HN := hidH hn
    clear ht P b2 H1 HT RI hp hi hs hn
    simp only [Option.isSome_some]
    -- x may not stand in an array
    by_cases ha : t.arr = true ∧ x.kind ≠ 1
    · have hv4 : v.kind = 4 := by
        have := hk3; rw [ha.1] at this; exact of_decide_eq_true this.symm
      rw [if_pos ha] at E
      rw [hv4] at x0
      have hx1 : (x.kind != 1) = true := by simpa using ha.2
      clear hk1 hk2 hk3 ha hv4 BX2 BR2
      go_wp2
      go_ret
      rw [E.out]
      exact ⟨rfl, ST.out⟩
    rw [if_neg ha] at E
    -- what the guard comes to
    have gd : Hid ((v.kind == 4) = false ∨ ((v.kind == 4) = true ∧ (x.kind != 1) = false)) := by
      by_cases h4 : v.kind = 4
      · right
        refine ⟨by simpa using h4, ?_⟩
        have : t.arr = true := by rw [hk3]; simpa using h4
        have : x.kind = 1 := Classical.byContradiction fun e => ha ⟨this, e⟩
        simpa using this
      · left; simpa using h4
    clear ha hk1 hk2 hk3
    by_cases hk : 0 ≤ k ∧ k < (n : Int)
    · have hd : (decide (0 ≤ k) && decide (k < (n : Int))) = true := by simp [hk.1, hk.2]
      rw [hd] at CP
      clear hd
      obtain ⟨kn, rfl⟩ := Int.eq_ofNat_of_zero_le hk.1
      have hkn : kn < t.l.length := by rw [← HN.out]; omega
      rw [if_neg (by omega), Int.toNat_natCast] at E
      have PA : PartsAt w2 (.slice a n c) t.l := by rw [← HS.out]; exact RI2.out.part _ t HI.out
      have hne : t.l ≠ [] := fun e => by rw [e] at hkn; simp at hkn
      obtain ⟨g, c', e', hr⟩ := PA.2 hne
      simp only [Value.slice.injEq] at e'
      obtain ⟨rfl, e1, rfl⟩ := e'
      have HG : Hid (pblk (pv v.thing.toNat) t g) := ⟨hne, by rw [HS.out]; rfl⟩
      have hkn' : kn < n := by omega
      have hkni : (kn : Int) < n := by omega
      have HR := hidH hr
      have HK := hidH hkn
      have HM : Hid (∀ w3 : World, Below w2.heap.size w2 w3 → (∀ y0 y1 y2 y3 : Int, x.bare = ⟨y0, y1, y2, y3⟩ → HIn ((((w3.setCell ⟨g, kn * 4, none⟩ (.int .i64 y0)).setCell ⟨g, kn * 4 + 1, none⟩ (.int .i64 y1)).setCell ⟨g, kn * 4 + 2, none⟩ (.int .i64 y2)).setCell ⟨g, kn * 4 + 3, none⟩ (.int .i64 y3)) b O (h.set v (kn : Int) x.bare).2 G ∧ Step O O w ((((w3.setCell ⟨g, kn * 4, none⟩ (.int .i64 y0)).setCell ⟨g, kn * 4 + 1, none⟩ (.int .i64 y1)).setCell ⟨g, kn * 4 + 2, none⟩ (.int .i64 y2)).setCell ⟨g, kn * 4 + 3, none⟩ (.int .i64 y3))) ∧ (∃ z : HVal, w3.cell? ⟨g, kn * 4, none⟩ = some (.int .i64 z.kind) ∧ w3.cell? ⟨g, kn * 4 + 1, none⟩ = some (.int .i64 z.region) ∧ w3.cell? ⟨g, kn * 4 + 2, none⟩ = some (.int .i64 z.thing) ∧ w3.cell? ⟨g, kn * 4 + 3, none⟩ = some (.int .i64 z.n)) ∧ (∀ i, w3.frozen? ⟨g, i, none⟩ = false)) := by
        intro w3 b3
        have hr3 : w3.rowIs g 37 (t.l.length * 4) (vCell t.l) := HR.out.of_block (b3.block g HR.out.lt)
        refine ⟨fun y0 y1 y2 y3 hy => ?_, ⟨_, parts_cell hr3 (List.getElem?_eq_getElem HK.out)⟩, hr3.frozen⟩
        obtain ⟨q1, q2, q3⟩ := HHeap.place_some HP.out
        have RI3 := RI2.out.keep (fun x _ hx => b3.block x hx)
        have H3 := ST.out.1.below b3
        have gS : G.S v.region.toNat g := RI3.op _ t g HI.out HG.out
        have st : Step (G.S v.region.toNat) (G.S v.region.toNat) w3 ((((w3.setCell ⟨g, kn * 4, none⟩ (.int .i64 y0)).setCell ⟨g, kn * 4 + 1, none⟩ (.int .i64 y1)).setCell ⟨g, kn * 4 + 2, none⟩ (.int .i64 y2)).setCell ⟨g, kn * 4 + 3, none⟩ (.int .i64 y3)) := (((Step.refl _ w3).setCell (p := ⟨g, kn * 4, none⟩) gS _).setCell (p := ⟨g, kn * 4 + 1, none⟩) gS _).setCell (p := ⟨g, kn * 4 + 2, none⟩) gS _ |>.setCell (p := ⟨g, kn * 4 + 3, none⟩) gS _
        refine ⟨?_, (ST.out.2.trans (Step.of_below b3 (fun k hk => .inl hk))).trans ((st.mono (P := O) (fun x hx => (H3.os _ x hx).1)).sub (P := G.S v.region.toNat) (fun x hx => hx) |> fun q => ⟨q.os, q.tape, q.output, q.size, q.block, fun x hx => .inl hx⟩)⟩
        rw [E.out, hy]
        refine H3.regSame q2 q3 q3 ⟨tv, pv, ?_⟩ st
        exact RI3.put HI.out HG.out (by simp) (parts_put hr3 HK.out y0 y1 y2 y3) (fun x _ hx _ => putk_other hx _ _ _ _)
      obtain ⟨y0, y1, y2, y3, hy⟩ : ∃ y0 y1 y2 y3, x.bare = (⟨y0, y1, y2, y3⟩ : HVal) := ⟨_, _, _, _, rfl⟩
      have HY := hidH hy
      rw [hy] at CB
      have E0 : Hid ((h.set v (kn : Int) x.bare).1 = 0) := by show _ = _; rw [E.out]
      clear hk hkn hr PA hne e1 hy HK HR HG E ST HS HI HP HN RI2 BX2 BR2
      rcases gd.out with g1 | ⟨g1, g2⟩
      · go_wp2_with (go_at_call 35; refine (CP.out _).mono ?_; rintro e w' ⟨rfl, hw⟩; have hw := hw.symm; subst hw)
        refine (CB.out _).mono ?_
        rintro e w3 ⟨rfl, b3⟩
        obtain ⟨M1, ⟨z, c0, c1, c2, c3⟩, hf⟩ := HM.out w3 b3
        have M := hidH (M1 y0 y1 y2 y3 HY.out)
        have f0 := hf (kn * 4)
        have f1 := hf (kn * 4 + 1)
        have f2 := hf (kn * 4 + 2)
        have f3 := hf (kn * 4 + 3)
        clear M1 hf b3 HM x0 r0 r1 r2 r3 gd
        go_wp2
        go_ret
        exact ⟨by rw [E0.out]; rfl, M.out⟩
      · go_wp2_with (go_at_call 35; refine (CP.out _).mono ?_; rintro e w' ⟨rfl, hw⟩; have hw := hw.symm; subst hw)
        refine (CB.out _).mono ?_
        rintro e w3 ⟨rfl, b3⟩
        obtain ⟨M1, ⟨z, c0, c1, c2, c3⟩, hf⟩ := HM.out w3 b3
        have M := hidH (M1 y0 y1 y2 y3 HY.out)
        have f0 := hf (kn * 4)
        have f1 := hf (kn * 4 + 1)
        have f2 := hf (kn * 4 + 2)
        have f3 := hf (kn * 4 + 3)
        clear M1 hf b3 HM x0 r0 r1 r2 r3 gd
        go_wp2
        go_ret
        exact ⟨by rw [E0.out]; rfl, M.out⟩
    · have hd : (decide (0 ≤ k) && decide (k < (n : Int))) = false := by
        by_cases h1 : 0 ≤ k
        · rw [decide_eq_false (show ¬ k < (n : Int) by omega)]; simp
        · rw [decide_eq_false h1]; rfl
      rw [hd] at CP
      rw [if_pos (by omega)] at E
      clear hk hd BX2 BR2
      rcases gd.out with g1 | ⟨g1, g2⟩
      · go_wp2_with (go_at_call 35; refine (CP.out _).mono ?_; rintro e w' ⟨rfl, hw⟩; have hw := hw.symm; subst hw)
        go_ret
        rw [E.out]
        exact ⟨rfl, ST.out⟩
      · go_wp2_with (go_at_call 35; refine (CP.out _).mono ?_; rintro e w' ⟨rfl, hw⟩; have hw := hw.symm; subst hw)
        go_ret
        rw [E.out]
        exact ⟨rfl, ST.out⟩
end Go.Proofs.Ytjhdpajpibdnaae
