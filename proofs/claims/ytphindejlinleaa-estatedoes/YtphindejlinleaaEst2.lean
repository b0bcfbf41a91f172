/-
  Contracts of package estate's Get, Pages and New: each returns what the document's estate answers, and leaves in memory the estate that the document has then; all other memory stays as it was.
-/
import Derived.Test.YtphindejlinleaaEst
import Derived.Deep.QuietTactic
namespace Go.Proofs.Ytphindejlinleaa
open Go.ChangeShapes Go.WideShapes Go.ChangeAt Go.RowKit
set_option linter.unusedVariables false

theorem getLastD_at (l : List Int) (h : l ≠ []) : l.getD (l.length - 1) 0 = l.getLastD 0 := by
  rcases List.eq_nil_or_concat l with h' | ⟨ys, k, h'⟩
  · exact absurd h' h
  · rw [h']; simp [List.getD]

theorem cut_any (w : World) (gk : Nat) (O : Nat → Prop) (r : Reg) (n : Int) (h : RegAt w gk O r) (hp : r.pages ≠ []) (hl : r.pages.length ≤ 64) (hlo : 0 ≤ r.pages.getLastD 0) (hhi : r.pages.getLastD 0 < 64) (h0 : 0 ≤ r.used) (h1 : r.used ≤ 16) (hn : 1 ≤ n) (hn2 : n ≤ 16 - r.used) :
    Calls Try.prog 53 #[.pointer (some ⟨gk, 0, none⟩), .int .i64 n] w fun e' w' => e' = .returned (.int .i64 (16 * r.pages.getLastD 0 + r.used)) ∧ RegAt w' gk O ⟨r.pages, r.used + n⟩ ∧ Step O O w w' := by
  obtain ⟨v, hv1, hv2, hv3⟩ := h
  have hlf : r.left = 16 - r.used := by simp [Reg.left, hp]
  have hpos : 0 < r.pages.length := List.length_pos_iff.2 hp
  obtain ⟨a, cap, rfl, -, -⟩ := hv2.form
  obtain ⟨ga, rfl, -, -, -, -⟩ := hv2.head hpos
  have cl := hv2.cell (r.pages.length - 1) (by omega)
  rw [getLastD_at _ hp] at cl
  rw [hlf] at hv1
  have c0 : w.cell? ⟨gk, 0, none⟩ = some (.slice (some ⟨ga, 0, none⟩) r.pages.length cap) := cellOf hv1 0 _ rfl
  have c1 : w.cell? ⟨gk, 1, none⟩ = some (.int .i64 (16 - r.used)) := cellOf hv1 1 _ rfl
  have f1 := freeOf hv1 1
  have D : Hid (RegAt (w.setCell ⟨gk, 1, none⟩ (.int .i64 (16 - r.used - n))) gk O ⟨r.pages, r.used + n⟩ ∧ Step O O w (w.setCell ⟨gk, 1, none⟩ (.int .i64 (16 - r.used - n)))) := by
    refine ⟨⟨.slice (some ⟨ga, 0, none⟩) r.pages.length cap, ?_, ?_, hv3⟩, (Step.refl O w).setCell (p := ⟨gk, 1, none⟩) hv3 _⟩
    · rw [blockSet hv1]
      have : (Reg.mk r.pages (r.used + n)).left = 16 - r.used - n := by simp [Reg.left, hp]; omega
      rw [this]; rfl
    · refine hv2.keep (fun x hx => ?_) hv2.2
      obtain ⟨c, hc⟩ := hv2.block hx
      exact Below.heap_setCell _ _ _ _ (blockNe hc hv1 (by decide))
  obtain ⟨m, hm⟩ : ∃ m, r.pages.length = m + 1 := ⟨r.pages.length - 1, by omega⟩
  rw [hm] at c0 cl hl
  rw [show m + 1 - 1 = m by omega] at cl
  obtain ⟨q, hq⟩ : ∃ q, r.pages.getLastD 0 = q := ⟨_, rfl⟩
  obtain ⟨u, hu⟩ : ∃ u, r.used = u := ⟨_, rfl⟩
  have HU : Hid (r.used = u) := hu
  rw [hq] at cl hlo hhi ⊢
  rw [hu] at c1 h0 h1 hn2
  have hm0 : (0 : Int) ≤ m := by omega
  have hm1 : (m : Int) < (m + 1 : Nat) := by omega
  clear hv1 hv2 hm hq hlf hpos hp hu
  go_enter Try.func53, Try.ntmps53
  go_wp2_with fail
  go_quiet (fail)
  go_wp2
  go_ret
  rw [HU.out] at D ⊢
  refine ⟨?_, D.out.1, ((Step.refl O _).drewN _).setCell (p := ⟨gk, 1, none⟩) hv3 _⟩
  show Ending.returned (Value.int .i64 ((q + 1) * 16 - (16 - u))) = _
  rw [show (q + 1) * 16 - (16 - u) = 16 * q + u by omega]

/-- A page was appended to a region's, and 16 words of it are left. -/
theorem reg_pushed {w w1 : World} {gk : Nat} {O : Nat → Prop} {r : Reg} {v : Value} {q : Int} {ga cap : Nat} {o : Obj} {lf : Value} (hb : w.heap[gk]? = some (.cells #[v, lf] 82 (0, 0))) (hv : Row w O 3 v r.pages) (ho : O gk)
    (h1 : w1.ownsRow 0 3 1 (.slice (some ⟨ga, 0, none⟩) (r.pages.length + 1) cap) (r.pages.length + 1) (r.pages.map (Value.int .i64) ++ [.int .i64 q]))
    (hgrow : (w.alloc o).grownBy w1 v.ownBlock) (hat : v.ownBlock = some ga ∨ ga = w.heap.size + 1) (hlt : ga < w1.heap.size) :
    w1.cell? ⟨gk, 0, none⟩ = some v ∧ w1.cell? ⟨gk, 1, none⟩ = some lf ∧ w1.frozen? ⟨gk, 0, none⟩ = false ∧ w1.frozen? ⟨gk, 1, none⟩ = false ∧
    RegAt ((w1.setCell ⟨gk, 0, none⟩ (.slice (some ⟨ga, 0, none⟩) (r.pages.length + 1) cap)).setCell ⟨gk, 1, none⟩ (.int .i64 16)) gk (grow O w w1) ⟨r.pages ++ [q], 0⟩ ∧
    Step O (grow O w w1) w ((w1.setCell ⟨gk, 0, none⟩ (.slice (some ⟨ga, 0, none⟩) (r.pages.length + 1) cap)).setCell ⟨gk, 1, none⟩ (.int .i64 16)) := by
  have hltb := lt_of_block hb
  have hbv : v.ownBlock ≠ some gk := fun e => by
    obtain ⟨c, hc⟩ := hv.block e
    exact absurd rfl (blockNe hc hb (by decide))
  have keep : ∀ x, x < w.heap.size → v.ownBlock ≠ some x → w1.heap[x]? = w.heap[x]? := fun x hx hne =>
    (hgrow.block x (by simp; omega) (fun e => hne e.symm)).trans (Below.heap_alloc _ _ _ hx)
  have hb1 := (keep gk hltb hbv).trans hb
  have hsz : w.heap.size + 1 ≤ w1.heap.size := by have := hgrow.size; simpa using this
  have gO : ∀ x, O x ∨ w.heap.size ≤ x → x < w1.heap.size → grow O w w1 x := fun x h h' => ⟨h, h'⟩
  have hrow := hv.pushed (o := o) h1 hat hlt (grow O w w1) gO
  have hbg : gk ≠ ga := by
    intro e; subst e
    rcases hat with h' | h'
    · exact hbv h'
    · omega
  have hk : grow O w w1 gk := gO gk (Or.inl ho) (by omega)
  refine ⟨cellOf hb1 0 _ rfl, cellOf hb1 1 _ rfl, freeOf hb1 0, freeOf hb1 1, ⟨.slice (some ⟨ga, 0, none⟩) (r.pages.length + 1) cap, ?_, ?_, hk⟩, ?_⟩
  · rw [blockSet (blockSet hb1 0 _) 1]
    have : (Reg.mk (r.pages ++ [q]) 0).left = 16 := by simp [Reg.left]
    rw [this]; rfl
  · refine hrow.keep (fun x hx => ?_) hrow.2
    simp [Value.ownBlock] at hx; subst hx
    rw [Below.heap_setCell _ _ _ _ (Ne.symm hbg), Below.heap_setCell _ _ _ _ (Ne.symm hbg)]
  · have S1 : Step O (grow O w w1) w w1 := by
      refine ⟨hgrow.os, hgrow.tape, hgrow.output, by omega, fun x hx hn => ?_, fun x hx => hx.1⟩
      exact keep x hx (fun e => hn (hv.2 x e))
    exact (S1.setCell (p := ⟨gk, 0, none⟩) hk _).setCell (p := ⟨gk, 1, none⟩) hk _

theorem Est.set_withP (e : Est) (s : St) (k : Nat) (o : Option Reg) : (e.withP s).set k o = (e.set k o).withP s := rfl

theorem grow_no (w : World) (b : Nat) (O : Nat → Prop) (e : Est) (L g : Nat → Nat) (bp gk : Nat) (h : Parts w b O e L bp g) (hk : e.p.nextK < 0) :
    Calls Try.prog 52 #[.pointer (some ⟨b, 0, none⟩), .pointer (some ⟨gk, 0, none⟩)] w fun e' w' => e' = .returned (.bool false) ∧ EstMem w' b bp (grow O w w') e ∧ Step O (grow O w w') w w' := by
  have hok : e.p.Ok := h.pool.ok
  have c0 := h.cell0
  have G : Hid (Calls Try.prog 16 #[.pointer (some ⟨bp, 0, none⟩)] w fun e' w' => e' = .returned (.int .i64 e.p.nextK) ∧ EstMem w' b bp (grow O w w') e ∧ Step O (grow O w w') w w') := by
    refine (take_any w bp (fun x => L x = 2) _ h.pool).mono ?_
    rintro e' w' ⟨rfl, k1, k2⟩
    obtain ⟨q1, q2⟩ := h.stepPool k1 k2
    rw [St.take_none hok hk] at q1
    exact ⟨rfl, ⟨_, _, q1⟩, q2⟩
  obtain ⟨q, hq⟩ : ∃ q, e.p.nextK = q := ⟨_, rfl⟩
  rw [hq] at hk G
  clear h hq
  go_enter Try.func52, Try.ntmps52
  go_wp2_with (go_at_call 16; refine (G.out).mono ?_; rintro e' w5 ⟨rfl, hw5⟩)
  go_ret
  exact ⟨rfl, hw5⟩

theorem grow_yes (w : World) (b : Nat) (O : Nat → Prop) (e : Est) (L g : Nat → Nat) (bp j : Nat) (r : Reg) (h : Parts w b O e L bp g) (hr : e.reg j = some r) (hl : r.pages.length ≤ 64) (hk : 0 ≤ e.p.nextK) :
    Calls Try.prog 52 #[.pointer (some ⟨b, 0, none⟩), .pointer (some ⟨g j, 0, none⟩)] w fun e' w' => e' = .returned (.bool true) ∧ ∃ L', Parts w' b (grow O w w') ((e.set j (some ⟨r.pages ++ [e.p.nextK], 0⟩)).withP e.p.take) L' bp g ∧ Step O (grow O w w') w w' := by
  have c0 := h.cell0
  have hk64 := (St.nextK_lt h.pool.ok).2
  have h64 := h.pool.ok.most
  have G : Hid (Calls Try.prog 16 #[.pointer (some ⟨bp, 0, none⟩)] w fun e' w' => e' = .returned (.int .i64 e.p.nextK) ∧ Parts w' b (grow O w w') (e.withP e.p.take) (relab L 2 w w') bp g ∧ Step O (grow O w w') w w') := by
    refine (take_any w bp (fun x => L x = 2) _ h.pool).mono ?_
    rintro e' w' ⟨rfl, k1, k2⟩
    obtain ⟨q1, q2⟩ := h.stepPool k1 k2
    exact ⟨rfl, q1, q2⟩
  obtain ⟨q, hq⟩ : ∃ q, e.p.nextK = q := ⟨_, rfl⟩
  rw [hq] at hk hk64 G ⊢
  clear h hq
  obtain ⟨gk, hgk⟩ : ∃ gk, g j = gk := ⟨_, rfl⟩
  have HG : Hid (g j = gk) := hgk
  rw [hgk]
  clear hgk
  go_enter Try.func52, Try.ntmps52
  go_wp2_with fail
  refine (G.out).mono ?_
  rintro e' w5 ⟨rfl, p5, s5⟩
  have hr5 : (e.withP e.p.take).reg j = some r := hr
  obtain ⟨v, hb, hv, ho⟩ := p5.reg j r hr5
  rw [HG.out] at hb ho
  have cv : w5.cell? ⟨gk, 0, none⟩ = some v := cellOf hb 0 _ rfl
  obtain ⟨a, cap, rfl, -, -⟩ := hv.form
  have hown := hv.1
  obtain ⟨i0, hi, hz0, hz1, hz2⟩ := info_parts info_int
  have PS : Hid (∀ ga cap1 w1, w1.ownsRow 0 3 1 (.slice (some ⟨ga, 0, none⟩) (r.pages.length + 1) cap1) (r.pages.length + 1) (r.pages.map (Value.int .i64) ++ [.int .i64 q]) →
      (w5.alloc (.cells #[.int .i64 q] 3)).grownBy w1 (Value.slice a r.pages.length cap).ownBlock → ((Value.slice a r.pages.length cap).ownBlock = some ga ∨ ga = w5.heap.size + 1) → ga < w1.heap.size →
      w1.cell? ⟨gk, 0, none⟩ = some (.slice a r.pages.length cap) ∧ w1.cell? ⟨gk, 1, none⟩ = some (.int .i64 r.left) ∧ w1.frozen? ⟨gk, 0, none⟩ = false ∧ w1.frozen? ⟨gk, 1, none⟩ = false ∧
      ∃ L', Parts ((w1.setCell ⟨gk, 0, none⟩ (.slice (some ⟨ga, 0, none⟩) (r.pages.length + 1) cap1)).setCell ⟨gk, 1, none⟩ (.int .i64 16)) b (grow O w ((w1.setCell ⟨gk, 0, none⟩ (.slice (some ⟨ga, 0, none⟩) (r.pages.length + 1) cap1)).setCell ⟨gk, 1, none⟩ (.int .i64 16))) ((e.set j (some ⟨r.pages ++ [q], 0⟩)).withP e.p.take) L' bp g ∧
        Step O (grow O w ((w1.setCell ⟨gk, 0, none⟩ (.slice (some ⟨ga, 0, none⟩) (r.pages.length + 1) cap1)).setCell ⟨gk, 1, none⟩ (.int .i64 16))) w ((w1.setCell ⟨gk, 0, none⟩ (.slice (some ⟨ga, 0, none⟩) (r.pages.length + 1) cap1)).setCell ⟨gk, 1, none⟩ (.int .i64 16))) := by
    intro ga cap1 w1 h1 hgrow hat hlt
    have hg' := HG.out
    clear HG
    subst hg'
    obtain ⟨d1, d2, d3, d4, d5, d6⟩ := reg_pushed (r := r) hb hv ho h1 hgrow hat hlt
    refine ⟨d1, d2, d3, d4, ?_⟩
    obtain ⟨q1, q2⟩ := p5.stepReg hr5 d5 d6
    exact ⟨_, q1.mono (fun x hx _ => grow_trans s5.size x hx), s5.trans_grow q2⟩
  obtain ⟨len, hlen⟩ : ∃ len, r.pages.length = len := ⟨_, rfl⟩
  rw [hlen] at cv hown hl PS
  clear hb hv ho p5 s5 hr5 hlen G c0
  go_wp2_with (at_builtin; refine wpList_append_lies _ rfl (.tmp 17) (.tmp 19) 39 rfl 0 3 i0 (.int .i64 0) 1 8 under_ints hi hz0 hz1 hz2 rfl (by decide) _ _ _ rfl (hown.alloc _) ⟨w5.heap.size, 0, none⟩ 1 1 [.int .i64 q] rfl rfl (news_one _ _ _) (oneCell_one _) (by decide) (by unfold maxLen; omega) (by omega) (Nat.zero_le _) (w5.heap.size + 1) (by simp) ?_)
  intro ga cap1 w1 h1 hgrow hat hlt
  obtain ⟨d1, d2, d3, d4, d5⟩ := PS.out ga cap1 w1 h1 hgrow hat hlt
  have D : Hid (∃ L', Parts ((w1.setCell ⟨gk, 0, none⟩ (.slice (some ⟨ga, 0, none⟩) (len + 1) cap1)).setCell ⟨gk, 1, none⟩ (.int .i64 16)) b (grow O w ((w1.setCell ⟨gk, 0, none⟩ (.slice (some ⟨ga, 0, none⟩) (len + 1) cap1)).setCell ⟨gk, 1, none⟩ (.int .i64 16))) ((e.set j (some ⟨r.pages ++ [q], 0⟩)).withP e.p.take) L' bp g ∧
        Step O (grow O w ((w1.setCell ⟨gk, 0, none⟩ (.slice (some ⟨ga, 0, none⟩) (len + 1) cap1)).setCell ⟨gk, 1, none⟩ (.int .i64 16))) w ((w1.setCell ⟨gk, 0, none⟩ (.slice (some ⟨ga, 0, none⟩) (len + 1) cap1)).setCell ⟨gk, 1, none⟩ (.int .i64 16))) := d5
  clear d5 h1 hgrow hat hlt hown PS
  go_wp2
  go_ret
  exact ⟨rfl, D.out⟩

theorem mem_getLastD (l : List Int) (h : l ≠ []) : l.getLastD 0 ∈ l := by
  rcases List.eq_nil_or_concat l with h' | ⟨ys, k, h'⟩
  · exact absurd h' h
  · rw [h']; simp

set_option maxHeartbeats 800000 in
theorem get_any (w : World) (b bp : Nat) (O : Nat → Prop) (e : Est) (k n : Int) (h : EstAt w b bp O e) :
    Calls Try.prog 34 #[.pointer (some ⟨b, 0, none⟩), .int .i64 k, .int .i64 n] w fun e' w' => e' = .returned (.tuple #[.int .i64 (e.getAt k n), .int .i64 (e.getCode k n)]) ∧ EstMem w' b bp (grow O w w') (e.got k n) ∧ Step O (grow O w w') w w' := by
  have C : Hid (Calls Try.prog 36 #[.pointer (some ⟨b, 0, none⟩), .int .i64 k] w fun e' w' => e' = .returned (.bool (e.has k)) ∧ w' = w) := has_any w b bp O e k h.1
  have HH : Hid (EstMem w b bp O e) := h.1
  cases hh : e.has k with
  | false =>
    have E : Hid (e.getCode k n = 15 ∧ e.getAt k n = 0 ∧ e.got k n = e) := Est.get_none hh
    rw [hh] at C
    clear h hh
    go_enter Try.func34, Try.ntmps34
    go_wp2_with (go_at_call 36; refine (C.out).mono ?_; rintro e w' ⟨rfl, rfl⟩)
    go_ret2
    rw [E.out.1, E.out.2.1, E.out.2.2]
    exact ⟨rfl, HH.out.refl_grow, Step.refl_grow O _⟩
  | true =>
    rw [hh] at C
    by_cases hn : n < 1 ∨ 16 < n
    · have E : Hid (e.getCode k n = 1 ∧ e.getAt k n = 0 ∧ e.got k n = e) := Est.get_range hh hn
      clear h hh
      by_cases hn1 : n < 1
      · clear hn
        go_enter Try.func34, Try.ntmps34
        go_wp2_with (go_at_call 36; refine (C.out).mono ?_; rintro e w' ⟨rfl, rfl⟩)
        go_ret2
        rw [E.out.1, E.out.2.1, E.out.2.2]
        exact ⟨rfl, HH.out.refl_grow, Step.refl_grow O _⟩
      · have hn2 : 16 < n := by omega
        clear hn
        go_enter Try.func34, Try.ntmps34
        go_wp2_with (go_at_call 36; refine (C.out).mono ?_; rintro e w' ⟨rfl, rfl⟩)
        go_ret2
        rw [E.out.1, E.out.2.1, E.out.2.2]
        exact ⟨rfl, HH.out.refl_grow, Step.refl_grow O _⟩
    · obtain ⟨j, r, rfl, hj, hr⟩ := Est.has_true hh
      have hlen := h.2.lenR hr
      have hus := h.2.used j r hr
      have hn1 : ¬ n < 1 := by omega
      have hn2 : ¬ 16 < n := by omega
      obtain ⟨⟨L, g, hp⟩, hok⟩ := h
      have c := hp.cellAt j hj
      rw [hr] at c
      simp only [ptrOf] at c
      have cl : w.cell? ⟨g j, 1, none⟩ = some (.int .i64 r.left) := by
        obtain ⟨v, hv1, hv2, hv3⟩ := hp.reg j r hr
        exact cellOf hv1 1 _ rfl
      have hj1 : (j : Int) < 16 := by omega
      have hlast : r.pages ≠ [] → 0 ≤ r.pages.getLastD 0 ∧ r.pages.getLastD 0 < 64 := fun h => by
        have := hok.low (k := j) (x := r.pages.getLastD 0) (by rw [Est.at_some hr]; exact mem_getLastD _ h)
        have := hok.ok.most
        omega
      cases hm : r.more n with
      | false =>
        have E : Hid (e.getCode j n = 0 ∧ e.getAt j n = 16 * r.pages.getLastD 0 + r.used ∧ e.got j n = e.set j (some ⟨r.pages, r.used + n⟩)) := Est.get_room hj hr hn hm
        obtain ⟨hne, hle⟩ := Reg.room hm (by omega)
        have G : Hid (Calls Try.prog 53 #[.pointer (some ⟨g j, 0, none⟩), .int .i64 n] w fun e' w' => e' = .returned (.int .i64 (16 * r.pages.getLastD 0 + r.used)) ∧ EstMem w' b bp (grow O w w') (e.set j (some ⟨r.pages, r.used + n⟩)) ∧ Step O (grow O w w') w w') := by
          refine (cut_any w (g j) _ r n (hp.reg j r hr) hne hlen (hlast hne).1 (hlast hne).2 hus.1 hus.2 (by omega) hle).mono ?_
          rintro e' w' ⟨rfl, k1, k2⟩
          obtain ⟨q1, q2⟩ := hp.stepReg hr k1 k2
          exact ⟨rfl, ⟨_, _, q1⟩, q2⟩
        have hlf : ¬ r.left < n := by simpa [Reg.more] using hm
        generalize 16 * r.pages.getLastD 0 + r.used = z at E G
        generalize r.left = lf at cl hlf
        generalize g j = gk at c cl G
        clear hp hok hr hh hm hn hlast hle hne hus
        go_enter Try.func34, Try.ntmps34
        go_wp2_with (first | (go_at_call 36; refine (C.out).mono ?_; rintro e' w' ⟨rfl, hw⟩; have hw := hw.symm; subst hw) | (go_at_call 53; refine (G.out).mono ?_; rintro e' w5 ⟨rfl, hw5⟩))
        go_ret2
        rw [E.out.1, E.out.2.1, E.out.2.2]
        exact ⟨rfl, hw5⟩
      | true =>
        have hlf : r.left < n := by simpa [Reg.more] using hm
        by_cases hk : e.p.nextK < 0
        · have E : Hid (e.getCode j n = 14 ∧ e.getAt j n = 0 ∧ e.got j n = e) := Est.get_full hj hr hn hm hk
          have G : Hid (Calls Try.prog 52 #[.pointer (some ⟨b, 0, none⟩), .pointer (some ⟨g j, 0, none⟩)] w fun e' w' => e' = .returned (.bool false) ∧ EstMem w' b bp (grow O w w') e ∧ Step O (grow O w w') w w') := grow_no w b O e L g bp _ hp hk
          generalize r.left = lf at cl hlf
          generalize g j = gk at c cl G
          clear hp hok hr hh hm hn hlast hus hk
          go_enter Try.func34, Try.ntmps34
          go_wp2_with (first | (go_at_call 36; refine (C.out).mono ?_; rintro e' w' ⟨rfl, hw⟩; have hw := hw.symm; subst hw) | (go_at_call 52; refine (G.out).mono ?_; rintro e' w5 ⟨rfl, hw5⟩))
          go_ret2
          rw [E.out.1, E.out.2.1, E.out.2.2]
          exact ⟨rfl, hw5⟩
        · have E : Hid (e.getCode j n = 0 ∧ e.getAt j n = 16 * e.p.nextK ∧ e.got j n = (e.set j (some ⟨r.pages ++ [e.p.nextK], n⟩)).withP e.p.take) := Est.get_more hj hr hn hm hk
          have hk64 := (St.nextK_lt hok.ok).2
          have h64 := hok.ok.most
          have hok2 := hok.moreSet hr (n := 0) (by omega) (by omega) (by omega)
          have hr2 : ((e.set j (some ⟨r.pages ++ [e.p.nextK], 0⟩)).withP e.p.take).reg j = some ⟨r.pages ++ [e.p.nextK], 0⟩ := by simp [Est.withP, Est.set]
          have hlen2 := hok2.lenR hr2
          have G : Hid (Calls Try.prog 52 #[.pointer (some ⟨b, 0, none⟩), .pointer (some ⟨g j, 0, none⟩)] w fun e' w' => e' = .returned (.bool true) ∧
              Calls Try.prog 53 #[.pointer (some ⟨g j, 0, none⟩), .int .i64 n] w' fun e'' w'' => e'' = .returned (.int .i64 (16 * e.p.nextK)) ∧ EstMem w'' b bp (grow O w w'') ((e.set j (some ⟨r.pages ++ [e.p.nextK], n⟩)).withP e.p.take) ∧ Step O (grow O w w'') w w'') := by
            refine (grow_yes w b O e L g bp j r hp hr hlen (by omega)).mono ?_
            rintro e' w' ⟨rfl, L', p1, p2⟩
            refine ⟨rfl, ?_⟩
            refine (cut_any w' (g j) _ _ n (p1.reg j _ hr2) (by simp) hlen2 (by simp; omega) (by simp; omega) (by simp) (by simp) (by omega) (by simp; omega)).mono ?_
            rintro e'' w'' ⟨rfl, k1, k2⟩
            obtain ⟨q1, q2⟩ := p1.stepReg hr2 k1 k2
            refine ⟨by simp, ⟨relab L' (j + 3) w' w'', g, ?_⟩, p2.trans_grow q2⟩
            have e1 : ((e.set j (some ⟨r.pages ++ [e.p.nextK], 0⟩)).withP e.p.take).set j (some ⟨r.pages ++ [e.p.nextK], 0 + n⟩) = (e.set j (some ⟨r.pages ++ [e.p.nextK], n⟩)).withP e.p.take := by
              simp only [Est.withP, Est.set]
              congr 1
              funext i
              by_cases hi : i = j <;> simp [hi]
            rw [← e1]
            exact q1.mono (fun x hx _ => grow_trans p2.size x hx)
          generalize r.left = lf at cl hlf
          generalize g j = gk at c cl G
          clear hp hok hr hh hm hn hlast hus hok2 hr2 hlen2
          go_enter Try.func34, Try.ntmps34
          go_wp2_with (first | (go_at_call 36; refine (C.out).mono ?_; rintro e' w' ⟨rfl, hw⟩; have hw := hw.symm; subst hw) | (go_at_call 52; refine (G.out).mono ?_; rintro e' w5 ⟨rfl, hw5⟩) | (go_at_call 53; refine hw5.mono ?_; rintro e' w6 ⟨rfl, hw6⟩))
          go_ret2
          rw [E.out.1, E.out.2.1, E.out.2.2]
          exact ⟨rfl, hw6⟩

end Go.Proofs.Ytphindejlinleaa
