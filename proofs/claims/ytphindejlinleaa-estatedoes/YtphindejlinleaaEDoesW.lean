/-
  The walk through EstateDoes: it returns true, and nothing that came in has turned.
-/
import Derived.Test.YtphindejlinleaaR30
import Derived.Deep.QuietTactic
import Derived.BigQuiet
import Derived.Deep.DeepCutAuto
import Derived.Deep.CutBlock
import Derived.Deep.RegionHeld3
namespace Go.Proofs.Ytphindejlinleaa
open Go.ChangeShapes Go.WideShapes Go.ChangeAt Go.RowKit
set_option linter.unusedVariables false

set_option maxRecDepth 100000 in
theorem edoes_great (w : World) (pages : Int) (a : Option Addr) (len cap : Nat) (hg : 300 < (len : Int)) :
    Calls Try.prog 7 #[.int .i64 pages, .slice a len cap] w fun e w' => e = .returned (.bool true) ∧ Below w.heap.size w w' := by
  go_enter Try.func7, Try.ntmps7
  go_wp2_with fail
  refine (ebegun_any _).mono ?_
  rintro e w1 ⟨rfl, b1⟩
  go_wp2
  go_ret
  exact ⟨rfl, b1⟩

set_option maxRecDepth 100000 in
set_option maxHeartbeats 1600000 in
theorem edoes_no (w : World) (pages : Int) (a : Option Addr) (len cap : Nat) (hg : ¬ 300 < (len : Int)) (hp : pages < 0 ∨ 64 < pages) :
    Calls Try.prog 7 #[.int .i64 pages, .slice a len cap] w fun e w' => e = .returned (.bool true) ∧ Below w.heap.size w w' := by
  have C : Hid (∀ w, Calls Try.prog 28 #[.int .i64 pages] w fun e w' => e = .returned (.tuple #[.pointer none, .agg #[.int .i64 1, .int .i64 (-1)]]) ∧ Below w.heap.size w w') := fun w => enew_no w pages hp
  have hps : decide (pages < 0) = true ∨ decide (pages < 0) = false ∧ decide (64 < pages) = true := by
    rcases hp with h | h
    · left; simpa using h
    · right; exact ⟨by have : ¬ pages < 0 := by omega
                       simpa using this, by simpa using h⟩
  clear hp
  rcases hps with h1 | ⟨h1, h2⟩
  all_goals
    go_enter Try.func7, Try.ntmps7
    go_wp2_with fail
    refine (ebegun_any _).mono ?_
    rintro e w1 ⟨rfl, b1⟩
    go_wp2_with fail
    refine (C.out _).mono ?_
    rintro e w2 ⟨rfl, b2⟩
    have B : Hid (Below w.heap.size w w2) := b1.trans (b2.mono b1.size)
    have hz := b1.size
    have hz2 := b2.size
    clear b1 b2
    go_wp2
    go_ret
    exact ⟨rfl, B.out.alloc (by omega) _⟩

set_option maxHeartbeats 8000000 in
set_option maxRecDepth 100000 in
theorem edoes_yes (w : World) (n : Nat) (hn : n ≤ 64) (a : Option Addr) (len cap : Nat) (hg : ¬ 300 < (len : Int)) (F : Nat → Nat → Int) (h : Lies w a len 3 F) :
    Calls Try.prog 7 #[.int .i64 n, .slice a len cap] w fun e w' => e = .returned (.bool true) ∧ Below w.heap.size w w' := by
  have hL : Hid (Lies w a len 3 F) := h
  clear h
  have hp1 : decide ((n : Int) < 0) = false := by simp
  have hp2 : decide (64 < (n : Int)) = false := by have : ¬ 64 < (n : Int) := by omega
                                                   simpa using this
  go_enter Try.func7, Try.ntmps7
  go_wp2_with fail
  refine (ebegun_any _).mono ?_
  rintro e w1 ⟨rfl, b1⟩
  go_wp2_with fail
  refine (enew_yes _ n hn).mono ?_
  rintro e w2 ⟨b, bp, rfl, p1, b2⟩
  have P1 : Hid (EstAt (w2.alloc (.cells #[.int .i64 0, .int .i64 0] 31)) b bp (fun x => w1.heap.size ≤ x ∧ x < (w2.alloc (.cells #[.int .i64 0, .int .i64 0] 31)).heap.size) (Est.new n) ∧ Below w1.heap.size w1 (w2.alloc (.cells #[.int .i64 0, .int .i64 0] 31))) := by
    have q := p1.step (Step.of_alloc (fun _ => False) w2 (.cells #[.int .i64 0, .int .i64 0] 31)) (fun _ _ h => h)
    exact ⟨⟨q.1.mono (fun x hx hl => ⟨hx.1, hl⟩), q.2⟩, b2.alloc b2.size _⟩
  clear p1 b2
  go_wp2_with fail
  generalize w2.alloc (.cells #[.int .i64 0, .int .i64 0] 31) = w3 at P1 ⊢
  refine (lnew_any w3 n hn).mono ?_
  rintro e w4 ⟨c, cp, gl, rfl, p2, b3⟩
  have B0 : Hid (∃ s : Est, s.p.pages = n ∧ LBoth w1 w4 b bp c cp gl (fun _ => False) s s) := ⟨_, rfl, LBoth.start P1.out.1 P1.out.2 p2 b3⟩
  clear P1 p2 b3
  go_wp2_with fail
  go_loopw [8] (fun i wr => ∃ k : Nat, k ≤ len ∧ i = .int .i64 k ∧ ∃ s : Est, s.p.pages = n ∧ LBoth w1 wr b bp c cp gl (fun _ => False) s s) (fun i _ => len - (intOf i).toNat)
  case atStart => exact ⟨0, Nat.zero_le _, rfl, B0.out⟩
  case round =>
    clear B0
    obtain ⟨k, hk, rfl, e, hpg0, hR⟩ := hrel
    have hbl := b1.trans (hR.done.mono b1.size)
    by_cases hlt : k < len
    · obtain ⟨g, o, rfl, hd⟩ := hL.out k hlt
      have dd : ∀ j, j < 3 → wr.cell? ⟨g, o + k * 3 + j, none⟩ = some (.int .i64 (F k j)) := fun j hj => (hbl.cell (p := ⟨g, o + k * 3 + j, none⟩) (World.block_lt_of_cell? w ⟨g, o + k * 3 + j, none⟩ (hd j hj))).trans (hd j hj)
      have d0 := dd 0 (by omega)
      have d1 := dd 1 (by omega)
      have d2 := dd 2 (by omega)
      rw [Nat.add_zero] at d0
      clear dd hd hbl
      generalize F k 0 = x at d0
      generalize F k 1 = y at d1
      generalize F k 2 = z at d2
      have RR : Hid (LX w1 (wr.alloc (.cells #[.int .i64 x, .int .i64 y, .int .i64 z] 57)) b bp c cp gl wr.heap.size e e x y z) := ⟨hR.alloc _, blockNew wr _ _⟩
      have hpg : Hid (e.p.pages = n) := hpg0
      clear hR hpg0
      have hk0 : (0 : Int) ≤ k := by omega
      have hk1 : (k : Int) < len := by omega
      go_upto_block 2 with fail
      generalize wr.alloc (.cells #[.int .i64 x, .int .i64 y, .int .i64 z] 57) = w4 at RR ⊢
      generalize wr.heap.size = X at RR ⊢
      clear d0 d1 d2
      go_cut [] (fun wx => ∃ e' : Est, e'.p.pages = n ∧ LX w1 wx b bp c cp gl X e' e' x y z)
      case first =>
        have e0 := RR.out.at0
        have e1 := RR.out.at1
        have e2 := RR.out.at2
        by_cases c0 : x = 0
        · have c0' : (x == 0) = true := by simpa using c0
          clear c0
          go_wp2_with fail
          refine (open_lb RR.out.1).mono ?_
          rintro r w5 ⟨rfl, k5⟩
          have q5 := RR.out.next k5
          go_wp2_with fail
          refine (lopen_lb q5.1).mono ?_
          rintro r w6 ⟨rfl, k6⟩
          have Q : Hid (∃ e' : Est, e'.p.pages = n ∧ LX w1 w6 b bp c cp gl X e' e' x y z) := ⟨_, by rw [Est.p_opened]; exact hpg.out, q5.next k6⟩
          clear q5 k5 k6 RR
          generalize e.openK = ok at *
          go_wp2
          go_meet
          exact Q.out
        have c0' : (x == 0) = false := by simpa using c0
        clear c0
        by_cases c1 : x = 1
        · have c1' : (x == 1) = true := by simpa using c1
          clear c1
          go_upto_region 20 with fail
          go_cut [67] (fun t wx => t = .bool false ∧ LX w1 wx b bp c cp gl X (e.shut y) (e.shut y) x y z)
          case first =>
            have hhb : (e.has y != e.has y) = false := by simp
            go_region_with (first
              | (go_at_call 32; refine (shut_lb y (RR.out.drewN 1).1).mono ?_; rintro r w5 ⟨rfl, k5⟩; have q5 := (RR.out.drewN 1).next k5; have x6 := q5.at1; clear k5)
              | (go_at_call 33; refine (lshut_lb y q5.1).mono ?_; rintro r w6 ⟨rfl, k6⟩; have q6 := q5.next k6; clear k6))
            all_goals
              go_wp2
              go_meet
              exact ⟨by simp, q6⟩
          case rest =>
            obtain ⟨rfl, q6⟩ := hcut
            have Q : Hid (∃ e' : Est, e'.p.pages = n ∧ LX w1 wc b bp c cp gl X e' e' x y z) := ⟨_, by rw [Est.pages_shut]; exact hpg.out, q6⟩
            clear q6 RR
            go_wp2
            go_meet
            exact Q.out
        have c1' : (x == 1) = false := by simpa using c1
        clear c1
        by_cases c2 : x = 2
        · have c2' : (x == 2) = true := by simpa using c2
          clear c2
          go_wp2_with fail
          refine (get_lb y z RR.out.1).mono ?_
          rintro r w5 ⟨rfl, k5⟩
          have q5 := RR.out.next k5
          have x1 := q5.at1
          have x2 := q5.at2
          go_wp2_with fail
          refine (lget_lb y z q5.1).mono ?_
          rintro r w6 ⟨rfl, k6⟩
          have Q : Hid (∃ e' : Est, e'.p.pages = n ∧ LX w1 w6 b bp c cp gl X e' e' x y z) := ⟨_, by rw [Est.pages_got]; exact hpg.out, q5.next k6⟩
          clear q5 k5 k6 RR
          generalize e.getAt y z = A at *
          generalize e.getCode y z = cc at *
          go_wp2
          go_meet
          exact Q.out
        have c2' : (x == 2) = false := by simpa using c2
        clear c2
        by_cases c3 : x = 3
        · have c3' : (x == 3) = true := by simpa using c3
          clear c3
          have eb := RR.out.1.cells.1
          go_upto_region 28 with fail
          go_cut [106] (fun t wx => t = .bool (e.p.place y) ∧ LX w1 wx b bp c cp gl X (e.store y z) e x y z)
          case first =>
            go_region_with (go_at_call 20; refine (store_lb y z (RR.out.drewN 1).1).mono ?_; rintro r w5 ⟨rfl, k5⟩; have q5 := (RR.out.drewN 1).next k5; clear k5)
            all_goals
              go_wp2
              go_meet
              exact ⟨rfl, q5⟩
          case rest =>
            obtain ⟨rfl, q5⟩ := hcut
            clear RR e0 e1 e2 eb
            cases hpl : e.p.place y with
            | false =>
              have hs : e.store y z = e := by unfold Est.store St.store; rw [hpl]; rfl
              rw [hs] at q5
              have Q : Hid (∃ e' : Est, e'.p.pages = n ∧ LX w1 wc b bp c cp gl X e' e' x y z) := ⟨_, hpg.out, q5⟩
              clear q5 hs hpl
              go_wp2
              go_meet
              exact Q.out
            | true =>
              obtain ⟨h1, h2⟩ := St.place_true hpl
              obtain ⟨j, rfl⟩ := Int.eq_ofNat_of_zero_le h1
              rw [hpg.out] at h2
              have x1 := q5.at1
              have x2 := q5.at2
              have y0 := q5.1.cells.2.1
              obtain ⟨gw, nw, hw1, hw2, -, hw3⟩ := q5.1.words
              rw [hpg.out] at hw2
              obtain ⟨d1, d2, d3⟩ := hw3 j (by omega)
              have q6 := q5.next (d3 z)
              have Q1 : Hid (LX w1 (wc.setCell ⟨gw, j, none⟩ (.int .i64 z)) b bp c cp gl X (e.store j z) (e.store j z) x j z) := q6
              generalize e.p.ws j = wj at d1
              have hj0 : (0 : Int) ≤ j := by omega
              have hj1 : (j : Int) < nw := by omega
              clear q5 q6 d3 hw3 hw2 h1 hpl
              go_upto_region 29 with fail
              go_region
              have Q : Hid (∃ e' : Est, e'.p.pages = n ∧ LX w1 ((wc.setCell ⟨gw, j, none⟩ (.int .i64 z)).drew) b bp c cp gl X e' e' x j z) := ⟨_, by show (e.p.store j z).pages = n; rw [St.pages_store]; exact hpg.out, Q1.out.drewN 1⟩
              clear Q1
              generalize (wc.setCell ⟨gw, j, none⟩ (.int .i64 z)).drew = w7 at Q ⊢
              clear x1 x2 y0 hw1 d1 d2
              go_wp2
              go_meet
              exact Q.out
        have c3' : (x == 3) = false := by simpa using c3
        clear c3
        have Q : Hid (∃ e' : Est, e'.p.pages = n ∧ LX w1 w4 b bp c cp gl X e' e' x y z) := ⟨e, hpg.out, RR.out⟩
        go_wp2
        go_meet
        exact Q.out
      case rest =>
        obtain ⟨e', hpg', q⟩ := hcut
        clear RR hpg
        have HQ : Hid (LX w1 wc b bp c cp gl X e' e' x y z) := q
        have HP : Hid (e'.p.pages = n) := hpg'
        clear q hpg'
        generalize wc = w6 at *
        have S1 : ∀ wx, Below w6.heap.size w6 wx → wx.cell? ⟨X, 1, none⟩ = some (.int .i64 y) := fun wx hx => (HQ.out.below hx).at1
        have S2 : ∀ wx, Below w6.heap.size w6 wx → wx.cell? ⟨b, 0, none⟩ = some (.pointer (some ⟨bp, 0, none⟩)) := fun wx hx => (HQ.out.below hx).1.cells.1
        have S3 : ∀ wx, Below w6.heap.size w6 wx → wx.cell? ⟨c, 0, none⟩ = some (.pointer (some ⟨cp, 0, none⟩)) := fun wx hx => (HQ.out.below hx).1.cells.2.1
        have S4 : ∀ wx, Below w6.heap.size w6 wx → wx.cell? ⟨c, 1, none⟩ = some (.slice (some ⟨gl, 0, none⟩) 16 16) := fun wx hx => (HQ.out.below hx).1.cells.2.2
        go_upto_region 30 with fail
        go_cut [185] (fun t wx => t = .bool false ∧ Below w6.heap.size w6 wx)
        case first =>
          have hcc : (e'.count != e'.count) = false := by simp
          have hff : (e'.p.free != e'.p.free) = false := by simp
          generalize hcn : e'.count = cn at *
          generalize hfn : e'.p.free = fn at *
          have HC : Hid (e'.count = cn) := hcn
          have HF : Hid (e'.p.free = fn) := hfn
          clear hcn hfn
          cases hh : e'.has y with
          | false =>
            have HH : Hid (e'.has y = false) := hh
            clear hh S1 S2 S3 S4
            refine Code.wp_mono ?_ (r30_false HQ HH HC HF _ _ rfl (Nat.le_of_ble_eq_true (by kernel_rfl)) rfl rfl rfl)
            rintro ee aa wx ⟨rfl, vs, rfl, hv, hb⟩
            simp only [puts, List.range', Act.put, List.setIfInBounds_toArray, List.set_cons_zero, List.set_cons_succ, hv]
            have HB : Hid (Below w6.heap.size w6 wx) := hb
            clear hb hv
            go_wp2
            go_meet
            exact ⟨rfl, HB.out⟩
          | true =>
            obtain ⟨j, r, rfl, hj, hr⟩ := Est.has_true hh
            have HH : Hid (e'.has j = true) := hh
            have HI : Hid ((if e'.has j then e'.pagesAt (Int.toNat j) else []) = e'.pagesAt j) := by show _ = _; rw [hh]; rfl
            obtain ⟨al, cl, hcl, hll⟩ := HQ.out.1.list j hj
            have hp64 := HQ.out.1.ok.len j
            have HLL : Hid (Longs w6 (.slice al (e'.pagesAt j).length cl) (e'.pagesAt j)) := hll
            have HP' : Hid ((e'.pagesAt j).length ≤ 1000000) := by show _ ≤ _; omega
            have HS : Hid (∀ wx, Below w6.heap.size w6 wx → wx.cell? ⟨gl, j * 3 + 1, none⟩ = some (.slice al (e'.pagesAt j).length cl)) := fun wx hx => (hx.cell (p := ⟨gl, j * 3 + 1, none⟩) (World.block_lt_of_cell? w6 ⟨gl, j * 3 + 1, none⟩ hcl)).trans hcl
            have hj0 : (0 : Int) ≤ j := by omega
            have hj1 : (j : Int) < 16 := by omega
            clear hh hr hcl hll S1 S2 S3 S4
            refine Code.wp_mono ?_ (r30_true hj0 hj1 HQ HH HC HF HI HLL HP' HS _ _ rfl (Nat.le_of_ble_eq_true (by kernel_rfl)) rfl rfl rfl)
            rintro ee aa wx ⟨rfl, vs, rfl, hv, hb⟩
            simp only [puts, List.range', Act.put, List.setIfInBounds_toArray, List.set_cons_zero, List.set_cons_succ, hv]
            have HB : Hid (Below w6.heap.size w6 wx) := hb
            clear hb hv
            go_wp2
            go_meet
            exact ⟨rfl, HB.out⟩
        case rest =>
          obtain ⟨rfl, hb⟩ := hcut
          have Q : Hid (∃ s : Est, s.p.pages = n ∧ LBoth w1 wc b bp c cp gl (fun _ => False) s s) := ⟨e', HP.out, (HQ.out.below hb).1.forget⟩
          clear hb HQ S1 S2 S3 S4
          go_wp2
          go_roundw
          case rel => exact ⟨k + 1, by omega, by go_num, Q.out⟩
          case measure => simp [intOf]; omega
    · have HB : Hid (Below w.heap.size w wr) := hbl
      have HR : Hid (LBoth w1 wr b bp c cp gl (fun _ => False) e e) := hR
      obtain ⟨y0, y1, y2⟩ := hR.cells
      obtain ⟨gw, nw, hw1, hw2, hw3, -⟩ := hR.words
      have hcp : cp < wr.heap.size := World.block_lt_of_cell? wr ⟨cp, 0, none⟩ hw1
      have HW : Hid (Longs wr (.slice (some ⟨gw, 0, none⟩) nw nw) ((List.range (16 * e.p.pages)).map e.p.ws)) := hw3
      have HLw : Hid (((List.range (16 * e.p.pages)).map e.p.ws).length ≤ 1000000) := by show _ ≤ _; simp [hpg0]; omega
      have hsz : w.heap.size ≤ wr.heap.size := hbl.size
      have HS : Hid (∀ wx, Below wr.heap.size wr wx → wx.cell? ⟨cp, 0, none⟩ = some (.slice (some ⟨gw, 0, none⟩) nw nw)) := fun wx hx => (hx.cell (p := ⟨cp, 0, none⟩) hcp).trans hw1
      clear hbl hR hpg0 hw1 hw2 hw3 y0 y1 y2
      go_upto_region 32 with fail
      refine Code.wp_mono ?_ (r32_true HR rfl HW HLw HS _ _ rfl (Nat.le_of_ble_eq_true (by kernel_rfl)) rfl rfl)
      rintro ee aa wx ⟨rfl, vs, rfl, hv, hb⟩
      simp only [puts, List.range', Act.put, List.setIfInBounds_toArray, List.set_cons_zero, List.set_cons_succ, hv, List.cons_append, List.nil_append]
      have HBB : Hid (Below w.heap.size w wx) := HB.out.trans (hb.mono hsz)
      clear hb hv
      go_wp2
      go_ret
      exact ⟨rfl, HBB.out⟩

end Go.Proofs.Ytphindejlinleaa
