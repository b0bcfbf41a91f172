/-
  More contracts of the document's own estate: Get where a page is wanted, and the making of one.
-/
import Derived.Test.YtphindejlinleaaLands
import Derived.Deep.RegionLaw
import Derived.Deep.RegionWith
namespace Go.Proofs.Ytphindejlinleaa
open Go.ChangeShapes Go.WideShapes Go.ChangeAt Go.RowKit
set_option linter.unusedVariables false

set_option maxHeartbeats 1600000 in
theorem lget_full (w : World) (b bp gl : Nat) (O : Nat → Prop) (e : Est) (j : Nat) (r : Reg) (n : Int) (h : LandAt w b bp gl O e) (hj : j < 16) (hr : e.reg j = some r) (hn : ¬ (n < 1 ∨ 16 < n)) (hm : r.more n = true) (hk : e.p.nextK < 0) :
    Calls Try.prog 35 #[.pointer (some ⟨b, 0, none⟩), .int .i64 j, .int .i64 n] w fun r w' => r = .returned (.tuple #[.int .i64 (e.getAt j n), .int .i64 (e.getCode j n)]) ∧ LandMem w' b bp gl (grow O w w') (e.got j n) ∧ Step O (grow O w w') w w' := by
  have C : Hid (Calls Try.prog 37 #[.pointer (some ⟨b, 0, none⟩), .int .i64 j] w fun r w' => r = .returned (.bool (e.has j)) ∧ w' = w) := lhas_any w b bp gl O e j h.1
  have E : Hid (e.getCode j n = 14 ∧ e.getAt j n = 0 ∧ e.got j n = e) := Est.get_full hj hr hn hm hk
  rw [Est.has_of hj hr] at C
  have hlen := h.2.lenR hr
  have hus := h.2.used j r hr
  have hfree := (St.nextK_iff h.2.ok).1 hk
  have HH : Hid (LandMem w b bp gl O e) := h.1
  obtain ⟨⟨L, v, hp⟩, hok⟩ := h
  obtain ⟨c0, c1⟩ := hp.cells
  have FR : Hid (Calls Try.prog 25 #[.pointer (some ⟨bp, 0, none⟩)] w fun r w' => r = .returned (.int .i64 0) ∧ ∃ m, w' = w.drewN m) := by
    have := pfree_any w bp _ _ hp.pool
    rw [hfree] at this
    exact this
  obtain ⟨a, cap, hva, -, -⟩ := (hp.rows j hj).form
  rw [Est.at_some hr] at hva
  have k1 := hp.at1 j hj
  have k2 := hp.at2 j hj
  rw [hva] at k1
  rw [show e.usedAt j = r.used by simp [Est.usedAt, hr]] at k2
  have hmm := (Reg.more_iff (by omega)).1 hm
  have hll : r.pages = [] ↔ r.pages.length = 0 := by simp
  rw [hll] at hmm
  generalize r.pages.length = len at k1 hlen hmm
  generalize r.used = u at k2 hus hmm
  have hj0 : (0 : Int) ≤ j := by omega
  have hj1 : (j : Int) < 16 := by omega
  have hn1 : ¬ n < 1 := by omega
  have hn2 : ¬ 16 < n := by omega
  clear hp hok hr hm hn hva hk hfree hll
  by_cases hl0 : len = 0
  · subst hl0
    clear hmm
    go_enter Try.func35, Try.ntmps35
    go_wp2_with (first | (go_at_call 37; refine (C.out).mono ?_; rintro e' w' ⟨rfl, hw⟩; have hw := hw.symm; subst hw) | (go_at_call 25; refine (FR.out).mono ?_; rintro e' w' ⟨rfl, m, rfl⟩))
    go_ret2
    rw [E.out.1, E.out.2.1, E.out.2.2]
    refine ⟨rfl, (HH.out.drewN m).mono (fun x hx hl => ⟨Or.inl hx, hl⟩), ?_⟩
    have := (Step.refl O w).drewN m
    exact ⟨this.os, this.tape, this.output, this.size, this.block, fun x hx => hx.1⟩
  · have hlb : ((len : Int) == 0) = false := by have : ¬ ((len : Int) = 0) := by omega
                                                simpa using this
    have hub : decide (16 - u < n) = true := by have : 16 - u < n := by omega
                                                simpa using this
    clear hmm hl0
    go_enter Try.func35, Try.ntmps35
    go_wp2_with (first | (go_at_call 37; refine (C.out).mono ?_; rintro e' w' ⟨rfl, hw⟩; have hw := hw.symm; subst hw) | (go_at_call 25; refine (FR.out).mono ?_; rintro e' w' ⟨rfl, m, rfl⟩))
    go_ret2
    rw [E.out.1, E.out.2.1, E.out.2.2]
    refine ⟨rfl, (HH.out.drewN m).mono (fun x hx hl => ⟨Or.inl hx, hl⟩), ?_⟩
    have := (Step.refl O w).drewN m
    exact ⟨this.os, this.tape, this.output, this.size, this.block, fun x hx => hx.1⟩

/-- Behind the page's taking and the list's growing. -/
def Taken (w w' : World) (b bp gl j : Nat) (O : Nat → Prop) (e : Est) (r : Reg) (q : Int) (s : St) : Prop :=
  ∃ L' v' ga cap, LParts w' b (grow O w w') ((e.withP s).set j (some ⟨r.pages ++ [q], r.used⟩)) L' bp gl v' ∧ v' j = .slice (some ⟨ga, 0, none⟩) (r.pages.length + 1) cap ∧ Step O (grow O w w') w w'

set_option maxHeartbeats 4000000 in
set_option maxRecDepth 100000 in
theorem lget_more (w : World) (b bp gl : Nat) (O : Nat → Prop) (e : Est) (j : Nat) (r : Reg) (n : Int) (h : LandAt w b bp gl O e) (hj : j < 16) (hr : e.reg j = some r) (hn : ¬ (n < 1 ∨ 16 < n)) (hm : r.more n = true) (hk : ¬ e.p.nextK < 0) :
    Calls Try.prog 35 #[.pointer (some ⟨b, 0, none⟩), .int .i64 j, .int .i64 n] w fun r w' => r = .returned (.tuple #[.int .i64 (e.getAt j n), .int .i64 (e.getCode j n)]) ∧ LandMem w' b bp gl (grow O w w') (e.got j n) ∧ Step O (grow O w w') w w' := by
  have C : Hid (Calls Try.prog 37 #[.pointer (some ⟨b, 0, none⟩), .int .i64 j] w fun r w' => r = .returned (.bool (e.has j)) ∧ w' = w) := lhas_any w b bp gl O e j h.1
  have E : Hid (e.getCode j n = 0 ∧ e.getAt j n = 16 * e.p.nextK ∧ e.got j n = (e.set j (some ⟨r.pages ++ [e.p.nextK], n⟩)).withP e.p.take) := Est.get_more hj hr hn hm hk
  rw [Est.has_of hj hr] at C
  have hlen := h.2.lenR hr
  have hus := h.2.used j r hr
  have hfree : ¬ e.p.free = 0 := fun h' => hk ((St.nextK_iff h.2.ok).2 h')
  have hlo := h.2.ok.low
  have hhi := h.2.ok.high
  have h64 := h.2.ok.most
  have hgl := h.2.ok.len
  have hfl : 0 ≤ e.p.free ∧ e.p.free ≤ 1000 := by unfold St.free; omega
  have hklt := (St.nextK_lt h.2.ok).2
  obtain ⟨⟨L, v, hp⟩, hok⟩ := h
  obtain ⟨c0, c1⟩ := hp.cells
  have FR : Hid (Calls Try.prog 25 #[.pointer (some ⟨bp, 0, none⟩)] w fun r w' => r = .returned (.int .i64 e.p.free) ∧ ∃ m, w' = w.drewN m) := pfree_any w bp _ _ hp.pool
  obtain ⟨a, cap, hva, -, -⟩ := (hp.rows j hj).form
  rw [Est.at_some hr] at hva
  have k1 := hp.at1 j hj
  have k2 := hp.at2 j hj
  rw [hva] at k1
  rw [show e.usedAt j = r.used by simp [Est.usedAt, hr]] at k2
  have hmm := (Reg.more_iff (by omega)).1 hm
  have hll : r.pages = [] ↔ r.pages.length = 0 := by simp
  rw [hll] at hmm
  -- Take, in whatever world that has drawn
  have TK : Hid (∀ m, Calls Try.prog 17 #[.pointer (some ⟨bp, 0, none⟩)] (w.drewN m) fun r' w' => r' = .returned (.int .i64 e.p.nextK) ∧ ∃ L', LParts w' b (grow O w w') (e.withP e.p.take) L' bp gl v ∧ Step O (grow O w w') w w') := by
    intro m
    refine (hp.drewN m).take.mono ?_
    rintro r' w' ⟨rfl, q1, q2⟩
    refine ⟨rfl, _, q1, ?_⟩
    exact ⟨q2.os, q2.tape, q2.output, q2.size, q2.block, q2.own⟩
  have HVJ : Hid (v j = .slice a r.pages.length cap ∧ e.reg j = some r) := ⟨hva, hr⟩
  have hj0 : (0 : Int) ≤ j := by omega
  have hj1 : (j : Int) < 16 := by omega
  have hn1 : ¬ n < 1 := by omega
  have hn2 : ¬ 16 < n := by omega
  have hfb : (e.p.free == 0) = false := by simpa using hfree
  obtain ⟨q, hq⟩ : ∃ q, e.p.nextK = q := ⟨_, rfl⟩
  obtain ⟨fr, hfr⟩ : ∃ fr, e.p.free = fr := ⟨_, rfl⟩
  rw [hq] at E TK hk hklt
  rw [hfr] at FR hfb hfl
  obtain ⟨i0, hi, hz0, hz1, hz2⟩ := info_parts info_int
  -- what the append and the store make of it
  have PS : Hid (∀ w3 L', LParts w3 b (grow O w w3) (e.withP e.p.take) L' bp gl v → Step O (grow O w w3) w w3 →
      w3.cell? ⟨b, 0, none⟩ = some (.pointer (some ⟨bp, 0, none⟩)) ∧ w3.cell? ⟨gl, j * 3 + 1, none⟩ = some (.slice a r.pages.length cap) ∧ w3.ownsRow 0 3 1 (.slice a r.pages.length cap) r.pages.length (r.pages.map (Value.int .i64)) ∧
      ∀ ga cap1 w4, w4.ownsRow 0 3 1 (.slice (some ⟨ga, 0, none⟩) (r.pages.length + 1) cap1) (r.pages.length + 1) (r.pages.map (Value.int .i64) ++ [.int .i64 q]) → (w3.alloc (.cells #[.int .i64 q] 3)).grownBy w4 (Value.slice a r.pages.length cap).ownBlock → ((Value.slice a r.pages.length cap).ownBlock = some ga ∨ ga = w3.heap.size + 1) → ga < w4.heap.size →
        w4.cell? ⟨gl, j * 3 + 1, none⟩ = some (.slice a r.pages.length cap) ∧ w4.frozen? ⟨gl, j * 3 + 1, none⟩ = false ∧ Taken w (w4.setCell ⟨gl, j * 3 + 1, none⟩ (.slice (some ⟨ga, 0, none⟩) (r.pages.length + 1) cap1)) b bp gl j O e r q e.p.take) := by
    intro w3 L' p3 s3
    have hrow := p3.rows j hj
    rw [HVJ.out.1, show (e.withP e.p.take).pagesAt j = r.pages from Est.at_some HVJ.out.2] at hrow
    have k3 := p3.at1 j hj
    rw [HVJ.out.1] at k3
    refine ⟨p3.cells.1, k3, hrow.1, ?_⟩
    intro ga cap1 w4 h1 hgrow hat hlt
    rw [← HVJ.out.1] at hgrow hat
    obtain ⟨d1, d2, L4, v4, d3, d4, d5⟩ := land_pushed p3 hj (r := r) HVJ.out.2 h1 hgrow hat hlt
    rw [HVJ.out.1] at d1
    exact ⟨d1, d2, L4, v4, ga, cap1, d3.mono (fun x hx _ => grow_trans s3.size x hx), d4, s3.trans_grow d5⟩
  obtain ⟨len, hl⟩ : ∃ len, r.pages.length = len := ⟨_, rfl⟩
  have HLEN : Hid (r.pages.length = len) := hl
  obtain ⟨olds, hol⟩ : ∃ olds, r.pages.map (Value.int .i64) = olds := ⟨_, rfl⟩
  rw [hl] at k1 hlen hmm PS
  rw [hol] at PS
  obtain ⟨u, hu⟩ : ∃ u, r.used = u := ⟨_, rfl⟩
  rw [hu] at k2 hus hmm
  clear hp hok hr hm hn hva hfree hll hl hq hfr hol hu hlo hhi hgl HVJ
  have hcond : Hid (((len : Int) == 0) = true ∨ ((len : Int) == 0) = false ∧ decide (16 - u < n) = true) := by
    rcases Nat.eq_zero_or_pos len with h0 | h0
    · left; rw [h0]; rfl
    · right
      refine ⟨?_, ?_⟩
      · have : ¬ ((len : Int) = 0) := by omega
        simpa using this
      · have : 16 - u < n := by omega
        simpa using this
  clear hmm
  rcases hcond.out with hb1 | ⟨hb1, hb2⟩
  all_goals
    clear hcond
    go_enter Try.func35, Try.ntmps35
    go_wp2_with (first | (go_at_call 37; refine (C.out).mono ?_; rintro e' w' ⟨rfl, hw⟩; have hw := hw.symm; subst hw) | (go_at_call 25; refine (FR.out).mono ?_; rintro e' w' ⟨rfl, m, rfl⟩))
    go_cut [] (fun wx => Taken w wx b bp gl j O e r q e.p.take)
    case first =>
      go_region_law (first
        | (refine step_append_lies _ rfl (.tmp 50) (.tmp 56) 39 rfl 0 3 i0 (.int .i64 0) 1 8 under_ints hi hz0 hz1 hz2 rfl (by decide) (.slice a len cap) len olds rfl (ow.alloc _) ⟨w3.heap.size, 0, none⟩ 1 1 [.int .i64 q] rfl rfl (news_one _ _ _) (oneCell_one _) (by decide) (by unfold maxLen; omega) (by omega) (Nat.zero_le _) (w3.heap.size + 1) (by simp) ?_; intro ga cap1 w4 h1 hgrow hat hlt; obtain ⟨d1, d2, d3⟩ := ps ga cap1 w4 h1 hgrow hat hlt; have D3 : Hid (Taken w (w4.setCell ⟨gl, j * 3 + 1, none⟩ (.slice (some ⟨ga, 0, none⟩) (len + 1) cap1)) b bp gl j O e r q e.p.take) := d3; clear d3 h1 hgrow hat hlt)
        | (go_simp; go_at_call 17; refine (TK.out (m + 1)).mono ?_; rintro e' w3 ⟨rfl, L3, p3, s3⟩; obtain ⟨x0, x1, ow, ps⟩ := PS.out w3 L3 p3 s3; have x1' : (w3.alloc (.cells #[.int .i64 q] 3)).cell? ⟨gl, j * 3 + 1, none⟩ = some (.slice a len cap) := Lib.cell?_alloc_some _ x1; clear p3 s3))
      all_goals
        go_wp2
        go_meet
        exact D3.out
    case rest =>
      obtain ⟨L5, v5, ga, cap5, p5, hv5, s5⟩ := hcut
      clear k1 k2 c0 c1 PS TK FR C
      have hr5 : ((e.withP e.p.take).set j (some ⟨r.pages ++ [q], r.used⟩)).reg j = some ⟨r.pages ++ [q], r.used⟩ := by simp [Est.set]
      have y2 := p5.at2 j hj
      have fy := p5.lands.frozen (j * 3 + 2)
      generalize ((e.withP e.p.take).set j (some ⟨r.pages ++ [q], r.used⟩)).usedAt j = uu at y2
      obtain ⟨p6, s6⟩ := p5.setUsed j hj hr5 0
      have hr6 : (((e.withP e.p.take).set j (some ⟨r.pages ++ [q], r.used⟩)).set j (some ⟨r.pages ++ [q], 0⟩)).reg j = some ⟨r.pages ++ [q], 0⟩ := by simp [Est.set]
      have P6 : Hid (LParts (wc.setCell ⟨gl, j * 3 + 2, none⟩ (.int .i64 0)) b (grow O w wc) (((e.withP e.p.take).set j (some ⟨r.pages ++ [q], r.used⟩)).set j (some ⟨r.pages ++ [q], 0⟩)) L5 bp gl v5 ∧ Step O (grow O w wc) w (wc.setCell ⟨gl, j * 3 + 2, none⟩ (.int .i64 0))) := ⟨p6, s5.trans s6⟩
      clear p5 p6 s6 s5 hr5
      go_upto_region 11 with fail
      generalize wc.setCell ⟨gl, j * 3 + 2, none⟩ (.int .i64 0) = w6 at P6 ⊢
      clear y2 fy
      obtain ⟨p6, s6⟩ := P6.out
      have y2 := p6.at2 j hj
      have e6 : (((e.withP e.p.take).set j (some ⟨r.pages ++ [q], r.used⟩)).set j (some ⟨r.pages ++ [q], 0⟩)).usedAt j = 0 := by unfold Est.usedAt; rw [hr6]
      rw [e6] at y2
      have fy := p6.lands.frozen (j * 3 + 2)
      obtain ⟨p7, s7⟩ := p6.setUsed j hj hr6 n
      have hr7 : ((((e.withP e.p.take).set j (some ⟨r.pages ++ [q], r.used⟩)).set j (some ⟨r.pages ++ [q], 0⟩)).set j (some ⟨r.pages ++ [q], n⟩)).reg j = some ⟨r.pages ++ [q], n⟩ := by simp [Est.set]
      have P7 : Hid (LParts (w6.setCell ⟨gl, j * 3 + 2, none⟩ (.int .i64 n)) b (grow O w wc) ((((e.withP e.p.take).set j (some ⟨r.pages ++ [q], r.used⟩)).set j (some ⟨r.pages ++ [q], 0⟩)).set j (some ⟨r.pages ++ [q], n⟩)) L5 bp gl v5 ∧ Step O (grow O w wc) w (w6.setCell ⟨gl, j * 3 + 2, none⟩ (.int .i64 n))) := ⟨p7, s6.trans s7⟩
      have HZ : Hid (w6.heap.size = (w6.setCell ⟨gl, j * 3 + 2, none⟩ (.int .i64 n)).heap.size) := by show _ = _; simp
      clear p6 s6 p7 s7 P6 hr6 e6
      go_upto_region 12 with fail
      generalize w6.setCell ⟨gl, j * 3 + 2, none⟩ (.int .i64 n) = w7 at P7 HZ ⊢
      clear y2 fy
      obtain ⟨p7, s7⟩ := P7.out
      have y1 := p7.at1 j hj
      have y2 := p7.at2 j hj
      have e7 : ((((e.withP e.p.take).set j (some ⟨r.pages ++ [q], r.used⟩)).set j (some ⟨r.pages ++ [q], 0⟩)).set j (some ⟨r.pages ++ [q], n⟩)).usedAt j = n := by unfold Est.usedAt; rw [hr7]
      rw [e7] at y2
      rw [hv5, HLEN.out] at y1
      have hrow := p7.rows j hj
      rw [hv5, HLEN.out, Est.at_some hr7] at hrow
      have yl := hrow.cell len (by have := HLEN.out; simp; omega)
      have eq : (r.pages ++ [q]).getD len 0 = q := by rw [← HLEN.out]; simp [List.getD]
      rw [show ((⟨r.pages ++ [q], n⟩ : Reg).pages) = r.pages ++ [q] from rfl, eq] at yl
      have EE : Hid ((((e.withP e.p.take).set j (some ⟨r.pages ++ [q], r.used⟩)).set j (some ⟨r.pages ++ [q], 0⟩)).set j (some ⟨r.pages ++ [q], n⟩) = (e.set j (some ⟨r.pages ++ [q], n⟩)).withP e.p.take) := by
        show _ = _
        simp only [Est.withP, Est.set]
        congr 1
        funext i
        by_cases hi : i = j <;> simp [hi]
      have hl0 : (0 : Int) ≤ len := by omega
      clear p7 s7 hrow e7 hr7 eq
      go_quiet (fail)
      go_wp2
      go_ret2
      rw [E.out.1, E.out.2.1, E.out.2.2, ← EE.out]
      refine ⟨rfl, ?_, ?_⟩
      · exact LandMem.mono (LandMem.drewN ⟨_, _, P7.out.1⟩ nq) (fun x hx hl => ⟨hx.1, hl⟩)
      · have := P7.out.2.drewN nq
        exact ⟨this.os, this.tape, this.output, this.size, this.block, fun x hx => hx.1⟩

theorem lget_any (w : World) (b bp gl : Nat) (O : Nat → Prop) (e : Est) (k n : Int) (h : LandAt w b bp gl O e) :
    Calls Try.prog 35 #[.pointer (some ⟨b, 0, none⟩), .int .i64 k, .int .i64 n] w fun r w' => r = .returned (.tuple #[.int .i64 (e.getAt k n), .int .i64 (e.getCode k n)]) ∧ LandMem w' b bp gl (grow O w w') (e.got k n) ∧ Step O (grow O w w') w w' := by
  cases hh : e.has k with
  | false => exact lget_none w b bp gl O e k n h hh
  | true =>
    by_cases hn : n < 1 ∨ 16 < n
    · exact lget_range w b bp gl O e k n h hh hn
    · obtain ⟨j, r, rfl, hj, hr⟩ := Est.has_true hh
      cases hm : r.more n with
      | false => exact lget_room w b bp gl O e j r n h hj hr hn hm
      | true =>
        by_cases hk : e.p.nextK < 0
        · exact lget_full w b bp gl O e j r n h hj hr hn hm hk
        · exact lget_more w b bp gl O e j r n h hj hr hn hm hk

def newLands : Array Value := madeCells #[.bool false, .slice none 0 0, .int .i64 0] 48
theorem newLands_at : ∀ i, i < 48 → newLands[i]? = some (landF (Est.new 0) (fun _ => .slice none 0 0) i) := by
  intro i hi
  have e1 : newLands[i]? = some (#[Value.bool false, Value.slice none 0 0, Value.int .i64 0][i % 3]!) := by simp [newLands, madeCells, hi]
  rw [e1]
  simp only [landF]
  have : i % 3 = 0 ∨ i % 3 = 1 ∨ i % 3 = 2 := by omega
  rcases this with h | h | h
  · rw [h, if_pos rfl]; rfl
  · rw [h, if_neg (by decide), if_pos rfl]; rfl
  · rw [h, if_neg (by decide), if_neg (by decide)]; rfl
theorem under_lands : Try.prog.underlying 64 = some (.slice 70) := by kernel_rfl
theorem info_land : (Try.prog.info? 70).map (fun i => (i.zero, i.size, i.bytes)) = some (some (.agg #[.bool false, .slice none 0 0, .int .i64 0]), 3, 40) := by kernel_rfl
theorem make16 (w : World) : (Instr.makeSlice 64 (.int .i64 16) (.int .i64 16)).run Try.prog w = .ok (.slice (some ⟨w.heap.size, 0, none⟩) 16 16) (w.alloc (.cells newLands 70)) := by
  obtain ⟨i0, hi, hz0, hz1, hz2⟩ := info_parts info_land
  have := run_make (P := Try.prog) w 64 70 i0 _ under_lands hi hz0 .i64 .i64 16 16 (by omega) (by omega) (by rw [hz2]; decide) (by omega)
  rw [hz1] at this
  exact this

/-- In whichever order its parts were made. -/
theorem land_new (w0 w : World) (n : Nat) (h : n ≤ 64) (bp gl X Y : Nat) (hp : PagesAt w bp (fun x => X ≤ x ∧ x < Y ∧ x ≠ gl) (St.new n)) (hl : w.rowIs gl 70 48 (landF (Est.new n) (fun _ => .slice none 0 0))) (hX : w0.heap.size ≤ X) (hg : w0.heap.size ≤ gl) (hY : Y ≤ w.heap.size) (hb : Below w0.heap.size w0 w) :
    LandAt (w.alloc (.cells #[.pointer (some ⟨bp, 0, none⟩), .slice (some ⟨gl, 0, none⟩) 16 16] 66)) w.heap.size bp gl (fun x => w0.heap.size ≤ x ∧ x < (w.alloc (.cells #[.pointer (some ⟨bp, 0, none⟩), .slice (some ⟨gl, 0, none⟩) 16 16] 66)).heap.size) (Est.new n) := by
  have hgl := hl.lt
  have hz := hb.size
  refine ⟨⟨fun x => if x = w.heap.size then 1 else if x = gl then 3 else if X ≤ x ∧ x < Y then 2 else 0, fun _ => .slice none 0 0, blockNew w _ _, by simp, hl.alloc _, ?_, ?_, ?_, ?_⟩, Est.ok_new n h⟩
  · rw [if_neg (by omega), if_pos rfl]
  · refine (hp.step (Step.of_alloc (fun _ => False) w _) (fun _ _ h => h)).mono (fun x hx _ => ?_)
    rw [if_neg (by omega), if_neg hx.2.2, if_pos ⟨hx.1, hx.2.1⟩]
  · intro k hk
    have : (Est.new n).pagesAt k = [] := rfl
    rw [this]; exact Row.nil _ _ _
  · intro x hx
    by_cases h1 : x = w.heap.size
    · subst h1; simp; omega
    · by_cases h2 : x = gl
      · subst h2; simp; omega
      · by_cases h3 : X ≤ x ∧ x < Y
        · simp; omega
        · simp [h1, h2, h3] at hx

set_option maxHeartbeats 1600000 in
theorem lnew_any (w : World) (n : Nat) (h : n ≤ 64) :
    Calls Try.prog 29 #[.int .i64 n] w fun r w' => ∃ b bp gl, r = .returned (.pointer (some ⟨b, 0, none⟩)) ∧ LandAt w' b bp gl (fun x => w.heap.size ≤ x ∧ x < w'.heap.size) (Est.new n) ∧ Below w.heap.size w w' := by
  have C : Hid (∀ w, Calls Try.prog 15 #[.int .i64 n] w fun e w' => ∃ b, e = .returned (.pointer (some ⟨b, 0, none⟩)) ∧ PagesAt w' b (fun x => w.heap.size ≤ x ∧ x < w'.heap.size) (St.new n) ∧ Below w.heap.size w w') := fun w => pnew_any w n h
  have hmk := make16
  have hrow : ∀ w : World, (w.alloc (.cells newLands 70)).rowIs w.heap.size 70 48 (landF (Est.new n) (fun _ => .slice none 0 0)) := fun w => ⟨newLands, blockNew w _ _, by simp [newLands, size_madeCells], newLands_at⟩
  have HR : Hid (∀ w : World, (w.alloc (.cells newLands 70)).rowIs w.heap.size 70 48 (landF (Est.new n) (fun _ => .slice none 0 0))) := hrow
  clear hrow
  go_enter Try.func29, Try.ntmps29
  go_upto_region 1 with fail
  go_region_with (go_at_call 15; refine (C.out _).mono ?_; rintro e' w5 ⟨bp, rfl, p5, b5⟩; have P5 : Hid (PagesAt w5 bp _ (St.new n) ∧ Below _ _ w5) := ⟨p5, b5⟩; clear p5 b5)
  · go_wp2
    go_ret
    obtain ⟨p5, b5⟩ := P5.out
    have hz : w.heap.size ≤ w5.heap.size := b5.size
    have bw : Below w.heap.size w w5 := ⟨b5.os, b5.tape, b5.output, b5.size, b5.block⟩
    have hp : PagesAt (w5.alloc (.cells newLands 70)) bp (fun x => w.heap.size ≤ x ∧ x < w5.heap.size ∧ x ≠ w5.heap.size) (St.new n) :=
      (p5.step (Step.of_alloc (fun _ => False) w5 _) (fun _ _ h => h)).mono (fun x hx _ => ⟨hx.1, hx.2, by have := hx.2; omega⟩)
    have bw2 := bw.alloc hz (.cells newLands 70)
    have := land_new w _ n h bp w5.heap.size w.heap.size w5.heap.size hp (HR.out w5) (Nat.le_refl _) hz (by simp) bw2
    rw [World.size_alloc] at this
    exact ⟨w5.heap.size + 1, bp, w5.heap.size, rfl, this, bw2.alloc (by simp; omega) _⟩
  · go_wp2
    go_ret
    obtain ⟨p5, b5⟩ := P5.out
    have hz : w.heap.size + 1 ≤ w5.heap.size := by have := b5.size; simpa using this
    have bw : Below w.heap.size w w5 := ((Below.refl _ w).alloc (Nat.le_refl _) (.cells newLands 70)).trans (Below.mono ⟨b5.os, b5.tape, b5.output, b5.size, b5.block⟩ (by simp))
    have hp : PagesAt w5 bp (fun x => w.heap.size + 1 ≤ x ∧ x < w5.heap.size ∧ x ≠ w.heap.size) (St.new n) :=
      p5.mono (fun x hx _ => by
        have h1 : w.heap.size + 1 ≤ x := by have := hx.1; simpa using this
        exact ⟨h1, hx.2, by omega⟩)
    have hl := (HR.out w).of_block (b5.block w.heap.size (by simp))
    have := land_new w w5 n h bp w.heap.size (w.heap.size + 1) w5.heap.size hp hl (by omega) (Nat.le_refl _) (Nat.le_refl _) bw
    exact ⟨w5.heap.size, bp, w.heap.size, rfl, this, bw.alloc (by omega) _⟩

theorem LandMem.words {w : World} {b bp gl : Nat} {O : Nat → Prop} {e : Est} (h : LandMem w b bp gl O e) : w.cell? ⟨b, 0, none⟩ = some (.pointer (some ⟨bp, 0, none⟩)) ∧ w.cell? ⟨b, 1, none⟩ = some (.slice (some ⟨gl, 0, none⟩) 16 16) := by
  obtain ⟨L, v, h⟩ := h
  exact h.cells

end Go.Proofs.Ytphindejlinleaa
