/-
  The walk through EstateApart: it returns true, and nothing that came in has turned.
-/
import Derived.Test.YtphindejlinleaaApartM
import Derived.Test.YtphindejlinleaaArgs
import Derived.Test.YtphindejlinleaaIn
import Derived.Deep.QuietTactic
import Derived.BigQuiet
import Derived.Deep.DeepCutAuto
import Derived.Deep.CutBlock
import Derived.Laws.AppendOwnNone
namespace Go.Proofs.Ytphindejlinleaa
open Go.ChangeShapes Go.WideShapes Go.ChangeAt Go.RowKit
set_option linter.unusedVariables false

theorem others_take_succ (rs : List Run) (k : Int) (j : Nat) (hj : j < rs.length) : others (rs.take (j + 1)) k = if (rs.getD j noRun).region = k then others (rs.take j) k else others (rs.take j) k ++ [rs.getD j noRun] := by
  rw [List.take_succ_eq_append_getElem hj]
  unfold others
  rw [List.filter_append]
  have : rs.getD j noRun = rs[j] := by simp [List.getD, hj]
  rw [this]
  by_cases h : (rs[j]).region = k <;> simp [h]
theorem others_take_len (rs : List Run) (k : Int) (j : Nat) : (others (rs.take j) k).length ≤ rs.length := Nat.le_trans (List.length_filter_le _ _) (List.length_take_le' _ _)
theorem run_mem (rs : List Run) (j : Nat) (hj : j < rs.length) : rs.getD j noRun ∈ rs := by
  have : rs.getD j noRun = rs[j] := by simp [List.getD, hj]
  rw [this]; exact List.getElem_mem hj
theorem run_low {e : Est} {q : Run} (h : RunIn e q) (hok : e.Ok) : 0 ≤ q.at_ ∧ 0 ≤ q.n ∧ q.at_ + q.n ≤ 1024 := by
  obtain ⟨j, r, p, a1, a2, a3, a4, a5, a6, a7⟩ := h
  have h1 := hok.low (k := j) (x := p) (by rw [Est.at_some a2]; exact a3)
  have h2 := hok.ok.most
  omega
theorem pages_of_has {e : Est} (hok : e.Ok) (k : Nat) (hk : k < 16) : (if e.has k then e.pagesAt (Int.toNat k) else []) = e.pagesAt k := by
  cases hh : e.has k with
  | true => simp
  | false =>
    have : e.reg k = none := by
      cases hr : e.reg k with
      | none => rfl
      | some r => rw [Est.has_of hk hr] at hh; cases hh
    simp [Est.pagesAt, this]

set_option maxRecDepth 100000 in
theorem apart_great (w : World) (pages : Int) (a : Option Addr) (len cap : Nat) (hg : 200 < (len : Int)) :
    Calls Try.prog 8 #[.int .i64 pages, .slice a len cap] w fun e w' => e = .returned (.bool true) ∧ Below w.heap.size w w' := by
  go_enter Try.func8, Try.ntmps8
  go_wp2_with fail
  refine (ebegun_any _).mono ?_
  rintro e w1 ⟨rfl, b1⟩
  go_wp2
  go_ret
  exact ⟨rfl, b1⟩

set_option maxRecDepth 100000 in
theorem apart_no (w : World) (pages : Int) (a : Option Addr) (len cap : Nat) (hg : ¬ 200 < (len : Int)) (hp : pages < 0 ∨ 64 < pages) :
    Calls Try.prog 8 #[.int .i64 pages, .slice a len cap] w fun e w' => e = .returned (.bool true) ∧ Below w.heap.size w w' := by
  have C : Hid (∀ w, Calls Try.prog 28 #[.int .i64 pages] w fun e w' => e = .returned (.tuple #[.pointer none, .agg #[.int .i64 1, .int .i64 (-1)]]) ∧ Below w.heap.size w w') := fun w => enew_no w pages hp
  clear hp
  go_enter Try.func8, Try.ntmps8
  go_wp2_with fail
  refine (ebegun_any _).mono ?_
  rintro e w1 ⟨rfl, b1⟩
  go_wp2_with fail
  refine (C.out _).mono ?_
  rintro e w2 ⟨rfl, b2⟩
  have B : Hid (Below w.heap.size w w2) := b1.trans (b2.mono b1.size)
  have hz := b1.size
  have hz2 := b2.size
  clear b1 b2
  go_wp2
  go_ret
  exact ⟨rfl, B.out.alloc (by omega) _⟩

set_option maxHeartbeats 4000000 in
set_option maxRecDepth 100000 in
theorem apart_yes (w : World) (n : Nat) (hn : n ≤ 64) (a : Option Addr) (len cap : Nat) (hg : ¬ 200 < (len : Int)) (F : Nat → Nat → Int) (h : Lies w a len 3 F) :
    Calls Try.prog 8 #[.int .i64 n, .slice a len cap] w fun e w' => e = .returned (.bool true) ∧ Below w.heap.size w w' := by
  have hL : Hid (Lies w a len 3 F) := h
  clear h
  go_enter Try.func8, Try.ntmps8
  go_wp2_with fail
  refine (ebegun_any _).mono ?_
  rintro e w1 ⟨rfl, b1⟩
  go_wp2_with fail
  refine (enew_yes _ n hn).mono ?_
  rintro e w2 ⟨b, bp, rfl, p1, b2⟩
  have K0 : Hid (EKeep w1 w2 b bp (fun _ => False) (Est.new n)) := EKeep.of_new p1 b2
  clear p1 b2
  go_wp2_with fail
  have R0 : Hid (ApL w1 (w2.alloc (.cells #[.int .i64 0, .int .i64 0] 31)) b bp (.slice none 0 0) [] (Est.new n)) := ⟨fun _ => False, K0.out.alloc _ (fun _ h => h.elim), RunsAt.nil _ _⟩
  generalize w2.alloc (.cells #[.int .i64 0, .int .i64 0] 31) = w3 at R0 ⊢
  clear K0
  go_loopw [7, 8] (fun v i wr => ∃ k : Nat, k ≤ len ∧ i = .int .i64 k ∧ ∃ rs e, ApL w1 wr b bp v rs e ∧ Ap e rs ∧ e.p.pages = n ∧ rs.length ≤ k) (fun _ i _ => len - (intOf i).toNat)
  case atStart => exact ⟨0, Nat.zero_le _, rfl, [], Est.new n, R0.out, Ap.new n, rfl, Nat.le_refl _⟩
  case round =>
    clear R0
    obtain ⟨k, hk, rfl, rs, e, hR, hA, hpg0, hrk⟩ := hrel
    have hbl := b1.trans (hR.done.mono b1.size)
    by_cases hlt : k < len
    · obtain ⟨g, o, rfl, hd⟩ := hL.out k hlt
      have dd : ∀ j, j < 3 → wr.cell? ⟨g, o + k * 3 + j, none⟩ = some (.int .i64 (F k j)) := fun j hj => (hbl.cell (p := ⟨g, o + k * 3 + j, none⟩) (World.block_lt_of_cell? w ⟨g, o + k * 3 + j, none⟩ (hd j hj))).trans (hd j hj)
      have d0 := dd 0 (by omega)
      have d1 := dd 1 (by omega)
      have d2 := dd 2 (by omega)
      rw [Nat.add_zero] at d0
      clear dd hd hbl
      generalize F k 0 = x at d0
      generalize F k 1 = y at d1
      generalize F k 2 = z at d2
      obtain ⟨av, capv, hv, -⟩ := (hR.enter x y z).runs.choose_spec.form
      subst hv
      have RR : Hid (ApX w1 (wr.alloc (.cells #[.int .i64 x, .int .i64 y, .int .i64 z] 57)) b bp wr.heap.size (.slice av rs.length capv) rs e x y z) := hR.enter x y z
      have hpg : Hid (e.p.pages = n ∧ Ap e rs) := ⟨hpg0, hA⟩
      have hok : Hid e.Ok := hR.ok
      clear hR hpg0 hA
      have hk0 : (0 : Int) ≤ k := by omega
      have hk1 : (k : Int) < len := by omega
      obtain ⟨L, hLL⟩ : ∃ L, rs.length = L := ⟨_, rfl⟩
      have HLL : Hid (rs.length = L) := hLL
      rw [hLL] at RR hrk ⊢
      clear hLL
      go_upto_region 13 with fail
      generalize wr.alloc (.cells #[.int .i64 x, .int .i64 y, .int .i64 z] 57) = w4 at RR ⊢
      generalize wr.heap.size = X at RR ⊢
      clear d0 d1 d2
      have e0 : w4.cell? ⟨X, 0, none⟩ = some (.int .i64 x) := cellOf RR.out.step 0 _ rfl
      have e1 : w4.cell? ⟨X, 1, none⟩ = some (.int .i64 y) := cellOf RR.out.step 1 _ rfl
      have e2 : w4.cell? ⟨X, 2, none⟩ = some (.int .i64 z) := cellOf RR.out.step 2 _ rfl
      by_cases c0 : x = 0
      · have c0' : (x == 0) = true := by simpa using c0
        clear c0
        go_wp2_with fail
        refine (open_ax RR.out).mono ?_
        rintro r w5 ⟨rfl, q⟩
        have Q : Hid (∃ rs e, ApL w1 w5 b bp (.slice av L capv) rs e ∧ Ap e rs ∧ e.p.pages = n ∧ rs.length ≤ k + 1) := ⟨rs, _, q.leave, hpg.out.2.opened, by rw [Est.p_opened]; exact hpg.out.1, by rw [HLL.out]; omega⟩
        clear q RR
        go_wp2
        go_roundw
        case rel => exact ⟨k + 1, by omega, by go_num, Q.out⟩
        case measure => simp [intOf]; omega
      have c0' : (x == 0) = false := by simpa using c0
      clear c0
      by_cases c1 : x = 1
      · have c1' : (x == 1) = true := by simpa using c1
        clear c1
        go_wp2_with fail
        refine (shut_ax y RR.out).mono ?_
        rintro r w5 ⟨rfl, q⟩
        have Q5 : Hid (ApX w1 w5 b bp X (.slice av L capv) rs (e.shut y) x y z) := q
        clear q RR e0 e1 e2
        generalize e.has y = hy
        have H1 : Hid (∀ wx, Below w5.heap.size w5 wx → wx.cell? ⟨X, 1, none⟩ = some (.int .i64 y) ∧ ∀ j, j < L → ∃ gt, av = some ⟨gt, 0, none⟩ ∧ wx.cell? ⟨gt, j * 3, none⟩ = some (.int .i64 (rs.getD j noRun).region) ∧ wx.cell? ⟨gt, j * 3 + 1, none⟩ = some (.int .i64 (rs.getD j noRun).at_) ∧ wx.cell? ⟨gt, j * 3 + 2, none⟩ = some (.int .i64 (rs.getD j noRun).n)) := by
          intro wx hx
          have qx := Q5.out.below hx
          refine ⟨cellOf qx.step 1 _ rfl, fun j hj => ?_⟩
          obtain ⟨a', cap', e', hc⟩ := qx.runs.choose_spec.form
          simp only [Value.slice.injEq] at e'
          obtain ⟨rfl, -, rfl⟩ := e'
          exact hc j (by rw [HLL.out]; exact hj)
        generalize wr = wq at *
        go_wp2_with fail
        go_loopw [10, 11] (fun u i wx => ∃ j : Nat, j ≤ L ∧ i = .int .i64 j ∧ wx.ownsRow w5.heap.size 74 3 u (others (rs.take j) y).length (flat (others (rs.take j) y)) ∧ Below w5.heap.size w5 wx) (fun _ i _ => L - (intOf i).toNat)
        case atStart => exact ⟨0, by omega, rfl, World.ownsRow_nil _ _ _ _, Below.refl _ _⟩
        case round =>
          obtain ⟨j, hj, rfl, hown, hbl⟩ := hrel
          have hbt := others_take_len rs y j
          rw [HLL.out] at hbt
          obtain ⟨x1, hcs⟩ := H1.out wr hbl
          by_cases hjl : j < L
          · obtain ⟨gt, rfl, hc0, hc1, hc2⟩ := hcs j hjl
            have hsucc := others_take_succ rs y j (by rw [HLL.out]; exact hjl)
            obtain ⟨q, hq⟩ : ∃ q, rs.getD j noRun = q := ⟨_, rfl⟩
            rw [hq] at hsucc hc0 hc1 hc2
            have U : Hid (∀ m, (wr.drewN m).ownsRow w5.heap.size 74 3 u10 (others (rs.take j) y).length (flat (others (rs.take j) y)) ∧ Below w5.heap.size w5 (wr.drewN m)) := fun m => ⟨hown, ⟨hbl.os, hbl.tape, hbl.output, hbl.size, hbl.block⟩⟩
            have hj0 : (0 : Int) ≤ j := by omega
            have hj1 : (j : Int) < L := by omega
            clear hown hbl hq hcs
            by_cases hqy : q.region = y
            · have hqy' : (q.region != y) = false := by simpa using hqy
              rw [if_pos hqy] at hsucc
              have S : Hid (others (rs.take (j + 1)) y = others (rs.take j) y) := hsucc
              clear hqy hsucc
              go_wp2_with fail
              go_quiet (fail)
              have U2 : Hid ((wr.drewN nq).ownsRow w5.heap.size 74 3 u10 (others (rs.take (j + 1)) y).length (flat (others (rs.take (j + 1)) y)) ∧ Below w5.heap.size w5 (wr.drewN nq)) := by rw [S.out]; exact U.out nq
              clear U
              go_wp2
              go_roundw
              case rel => exact ⟨j + 1, by omega, by go_num, U2.out.1, U2.out.2⟩
              case measure => simp [intOf]; omega
            · have hqy' : (q.region != y) = true := by simpa using hqy
              rw [if_neg hqy] at hsucc
              have S : Hid (others (rs.take (j + 1)) y = others (rs.take j) y ++ [q]) := hsucc
              clear hqy hsucc
              go_wp2_with fail
              go_quiet (fail)
              obtain ⟨hown, hbl⟩ := U.out nq
              have hc0' : (wr.drewN nq).cell? ⟨gt, j * 3, none⟩ = some (.int .i64 q.region) := hc0
              have hc1' : (wr.drewN nq).cell? ⟨gt, j * 3 + 1, none⟩ = some (.int .i64 q.at_) := hc1
              have hc2' : (wr.drewN nq).cell? ⟨gt, j * 3 + 2, none⟩ = some (.int .i64 q.n) := hc2
              generalize wr.drewN nq = wy at hown hbl hc0' hc1' hc2' ⊢
              clear hc0 hc1 hc2 x1 U
              have hsz := hbl.size
              obtain ⟨i0, hi, hz0, hz1, hz2⟩ := info_parts info_run
              go_wp2_with (at_builtin; refine wpList_append_lies _ rfl (.tmp 71) (.tmp 76) 72 rfl w5.heap.size 74 i0 (.agg #[.int .i64 0, .int .i64 0, .int .i64 0]) 3 24 under_runs hi hz0 hz1 hz2 rfl (by decide) _ _ _ rfl (hown.alloc _) ⟨wy.heap.size, 0, none⟩ 1 1 [.int .i64 q.region, .int .i64 q.at_, .int .i64 q.n] rfl rfl (news_three _ _ _ _ _) (oneCell_three _ _ _) (by decide) (by unfold maxLen; omega) (by omega) (by simp; omega) (wy.heap.size + 1) (by simp) ?_)
              intro g2 cap2 w9 h1 hgrow hat hlt1
              have U2 : Hid (w9.ownsRow w5.heap.size 74 3 (.slice (some ⟨g2, 0, none⟩) ((others (rs.take j) y).length + 1) cap2) (others (rs.take (j + 1)) y).length (flat (others (rs.take (j + 1)) y)) ∧ Below w5.heap.size w5 w9) := by
                have hlt9 : ∀ x, u10.ownBlock = some x → w5.heap.size ≤ x := by
                  intro x hx
                  obtain ⟨_, e | ⟨g', cap', cur, e, hge, _⟩⟩ := hown
                  · rw [e.1] at hx; simp [Value.ownBlock] at hx
                  · rw [e] at hx; simp [Value.ownBlock] at hx; omega
                refine ⟨?_, ?_⟩
                · rw [S.out, flat_append, List.length_append]; exact h1
                · exact (hbl.alloc hsz _).grown hgrow (by simp; omega) hlt9
              clear h1 hgrow hat hlt1 hown hbl
              go_wp2
              go_roundw
              case rel => exact ⟨j + 1, by omega, by go_num, U2.out.1, U2.out.2⟩
              case measure => simp [intOf]; omega
          · have hjlt : j = L := by omega
            have htt : rs.take j = rs := by rw [hjlt, ← HLL.out]; simp
            rw [htt] at hown hbt
            have q1 := Q5.out.other hbl hown
            have Q : Hid (∃ rs e, ApL w1 wr b bp u10 rs e ∧ Ap e rs ∧ e.p.pages = n ∧ rs.length ≤ k + 1) := ⟨_, _, q1, hpg.out.2.shut y, by rw [Est.pages_shut]; exact hpg.out.1, by omega⟩
            clear q1 hown hbl Q5 H1 htt hcs x1
            go_wp2
            go_roundw
            case rel => exact ⟨k + 1, by omega, by go_num, Q.out⟩
            case measure => simp [intOf]; omega
      have c1' : (x == 1) = false := by simpa using c1
      clear c1
      by_cases c2 : x = 2
      · have c2' : (x == 2) = true := by simpa using c2
        clear c2
        by_cases hc : e.getCode y z = 0
        · obtain ⟨g1, g2, g3, g4, g5, g6, g7, g8, g9⟩ := got_it hok.out hpg.out.2 y z hc
          have hrun : Hid (∀ j, j < L → 0 ≤ (rs.getD j noRun).at_ ∧ 0 ≤ (rs.getD j noRun).n ∧ (rs.getD j noRun).at_ + (rs.getD j noRun).n ≤ 1024 ∧ ¬ (e.getAt y z < (rs.getD j noRun).at_ + (rs.getD j noRun).n ∧ (rs.getD j noRun).at_ < e.getAt y z + z)) := fun j hj => by
            have hm := run_mem rs j (by rw [HLL.out]; exact hj)
            have := run_low (hpg.out.2.run _ hm) hok.out
            exact ⟨this.1, this.2.1, this.2.2, g7 _ hm⟩
          have hok1 : Hid (e.got y z).Ok := hok.out.got y z
          have hpg1 : Hid ((e.got y z).p.pages = n) := by show _ = n; rw [Est.pages_got]; exact hpg.out.1
          rw [hpg.out.1] at g2
          have G5 : Hid (hasB (if (e.got y z).has y then (e.got y z).pagesAt y.toNat else []) (e.getAt y z / 16) = true) := g5
          have G8 : Hid (∀ m : Nat, (m : Int) < z → (e.got y z).p.ws (e.getAt y z + m).toNat = 0) := g8
          have G9 : Hid (Ap ((e.got y z).withP ((e.got y z).p.fill (e.getAt y z) z.toNat)) (rs ++ [⟨y, e.getAt y z, z⟩])) := g9
          go_wp2_with fail
          refine (get_ax y z RR.out).mono ?_
          rw [hc]
          rintro r w5 ⟨rfl, q⟩
          have Q5 : Hid (ApX w1 w5 b bp X (.slice av L capv) rs (e.got y z) x y z) := q
          clear q RR e0 e1 e2 hc hok hpg g5 g7 g8 g9
          generalize e.got y z = e' at *
          generalize e.getAt y z = A at *
          have x1 : w5.cell? ⟨X, 1, none⟩ = some (.int .i64 y) := cellOf Q5.out.step 1 _ rfl
          have x2 : w5.cell? ⟨X, 2, none⟩ = some (.int .i64 z) := cellOf Q5.out.step 2 _ rfl
          have hplen : Hid ((if e'.has y then e'.pagesAt y.toNat else []).length ≤ 64) := by
            show _ ≤ 64
            split
            · exact hok1.out.len _
            · simp
          go_wp2_with fail
          refine (pages_ax y Q5.out).mono ?_
          generalize (if e'.has y then e'.pagesAt y.toNat else []) = pl at *
          rintro r w6 ⟨ap, cp, rfl, hrow, hb6⟩
          have Q6 : Hid (ApX w1 w6 b bp X (.slice av L capv) rs e' x y z) := Q5.out.below hb6
          have HR : Hid (Row w6 (fun x => w5.heap.size ≤ x) 3 (.slice ap pl.length cp) pl) := hrow
          clear hrow hb6 Q5 x1 x2
          have x1 : w6.cell? ⟨X, 1, none⟩ = some (.int .i64 y) := cellOf Q6.out.step 1 _ rfl
          have x2 : w6.cell? ⟨X, 2, none⟩ = some (.int .i64 z) := cellOf Q6.out.step 2 _ rfl
          have hA16 : 0 ≤ A % 16 ∧ A % 16 < 16 := by omega
          go_wp2_with fail
          refine (in_any w6 _ _ pl (A / 16) HR.out (by have := hplen.out; omega)).mono ?_
          rw [G5.out]
          rintro r w7 ⟨rfl, hw⟩
          have hw := hw.symm
          subst hw
          have H1 : Hid (∀ j, j < L → ∃ gt, av = some ⟨gt, 0, none⟩ ∧ w6.cell? ⟨gt, j * 3 + 1, none⟩ = some (.int .i64 (rs.getD j noRun).at_) ∧ w6.cell? ⟨gt, j * 3 + 2, none⟩ = some (.int .i64 (rs.getD j noRun).n)) := by
            intro j hj
            obtain ⟨a', cap', e', hc⟩ := Q6.out.runs.choose_spec.form
            simp only [Value.slice.injEq] at e'
            obtain ⟨rfl, -, rfl⟩ := e'
            obtain ⟨gt, h1, h2, h3⟩ := hc j (by rw [HLL.out]; exact hj)
            exact ⟨gt, h1, h3⟩
          clear HR G5 hplen
          generalize wr = wq at *
          go_wp2_with fail
          go_loopw [14] (fun i wx => ∃ j m : Nat, j ≤ L ∧ i = .int .i64 j ∧ wx = w6.drewN m) (fun i _ => L - (intOf i).toNat)
          case atStart => exact ⟨0, 0, by omega, rfl, rfl⟩
          case round =>
            obtain ⟨j, m, hj, rfl, rfl⟩ := hrel
            by_cases hjl : j < L
            · obtain ⟨gt, rfl, hc1, hc2⟩ := H1.out j hjl
              obtain ⟨r1, r2, r3, r4⟩ := hrun.out j hjl
              generalize (rs.getD j noRun).at_ = qa at *
              generalize (rs.getD j noRun).n = qn at *
              have hj0 : (0 : Int) ≤ j := by omega
              have hj1 : (j : Int) < L := by omega
              clear H1
              by_cases h1 : A < qa + qn
              · have h2 : ¬ qa < A + z := fun h => r4 ⟨h1, h⟩
                have h1' : decide (A < qa + qn) = true := by simpa using h1
                have h2' : decide (qa < A + z) = false := by simpa using h2
                have hw1 : IntKind.i64.wrap (qa + qn) = qa + qn := by rw [IntKind.wrap_i64]; omega
                have hw2 : IntKind.i64.wrap (A + z) = A + z := by rw [IntKind.wrap_i64]; omega
                have hG : decide (A < IntKind.i64.wrap (qa + qn)) = true := by rw [hw1]; exact h1'
                clear r4 h1 h2
                go_wp2_with fail
                go_quiet (fail)
                go_wp2
                go_roundw
                case rel => exact ⟨j + 1, _, by omega, by go_num, rfl⟩
                case measure => simp [intOf]; omega
              · have h1' : decide (A < qa + qn) = false := by simpa using h1
                have hw1 : IntKind.i64.wrap (qa + qn) = qa + qn := by rw [IntKind.wrap_i64]; omega
                have hG : decide (A < IntKind.i64.wrap (qa + qn)) = false := by rw [hw1]; exact h1'
                clear r4 h1
                go_wp2_with fail
                go_quiet (fail)
                go_wp2
                go_roundw
                case rel => exact ⟨j + 1, _, by omega, by go_num, rfl⟩
                case measure => simp [intOf]; omega
            · have Q7 : Hid (ApX w1 (w6.drewN m) b bp X (.slice av L capv) rs e' x y z) := Q6.out.drewN m
              generalize w6.drewN m = w7 at Q7 ⊢
              clear Q6 x1 x2 H1 hrun
              go_wp2_with fail
              obtain ⟨zn, hzn⟩ := Int.eq_ofNat_of_zero_le (show 0 ≤ z by omega)
              have hzn1 : z ≤ zn := by omega
              have hzn2 : (zn : Int) ≤ z := by omega
              clear hzn
              have E7 : Hid (ApX w1 w7 b bp X (.slice av L capv) rs (e'.withP (e'.p.fill A 0)) x y z) := by rw [St.fill_zero]; exact Q7.out
              clear Q7
              go_loopw [15] (fun i wx => ∃ m : Nat, m ≤ zn ∧ i = .int .i64 m ∧ ApX w1 wx b bp X (.slice av L capv) rs (e'.withP (e'.p.fill A m)) x y z) (fun i _ => zn - (intOf i).toNat)
              case atStart => exact ⟨0, by omega, rfl, E7.out⟩
              case round =>
                clear E7
                obtain ⟨m, hm, rfl, q⟩ := hrel
                have c0 := q.cell0
                have x1 : wr.cell? ⟨X, 1, none⟩ = some (.int .i64 y) := cellOf q.step 1 _ rfl
                have x2 : wr.cell? ⟨X, 2, none⟩ = some (.int .i64 z) := cellOf q.step 2 _ rfl
                have Q8 : Hid (ApX w1 wr b bp X (.slice av L capv) rs (e'.withP (e'.p.fill A m)) x y z) := q
                clear q
                by_cases hmz : (m : Int) < z
                · have hpl : (e'.p.fill A m).place (A + m) = true := by
                    show (decide (0 ≤ A + (m : Int)) && decide (A + (m : Int) < 16 * (e'.p.pages : Int))) = true
                    rw [hpg1.out, decide_eq_true (by omega), decide_eq_true (by omega)]; rfl
                  have hld : (e'.p.fill A m).load (A + m) = 0 := by
                    unfold St.load
                    rw [if_pos hpl]
                    show (if A ≤ (((A + (m : Int)).toNat : Nat) : Int) ∧ (((A + (m : Int)).toNat : Nat) : Int) < A + m then 7 else e'.p.ws (A + (m : Int)).toNat) = 0
                    rw [if_neg (by omega)]
                    exact G8.out m hmz
                  have hst : (e'.withP (e'.p.fill A m)).store (A + m) 7 = e'.withP (e'.p.fill A (m + 1)) := by
                    show (e'.withP (e'.p.fill A m)).withP ((e'.p.fill A m).store (A + m) 7) = _
                    rw [St.fill_succ g1 (by rw [hpg1.out]; omega)]; rfl
                  go_wp2_with fail
                  refine (load_ax (A + m) Q8.out).mono ?_
                  rw [show (e'.withP (e'.p.fill A m)).p = e'.p.fill A m from rfl, hpl, hld]
                  rintro r w8 ⟨rfl, hw⟩
                  have hw := hw.symm
                  subst hw
                  go_wp2_with fail
                  refine (store_ax (A + m) 7 Q8.out).mono ?_
                  rw [hst]
                  rintro r w9 ⟨rfl, q9⟩
                  have Q9 : Hid (ApX w1 w9 b bp X (.slice av L capv) rs (e'.withP (e'.p.fill A (m + 1))) x y z) := q9
                  generalize (e'.withP (e'.p.fill A m)).p.place (A + m) = bb
                  clear q9 Q8 hpl hld hst c0 x1 x2
                  go_wp2
                  go_roundw
                  case rel => exact ⟨m + 1, by omega, by go_num, Q9.out⟩
                  case measure => simp [intOf]; omega
                · have hmz2 : m = zn := by omega
                  have hmz3 : z.toNat = m := by omega
                  rw [hmz3] at G9
                  obtain ⟨K9, hK9⟩ := Q8.out.runs
                  have hown := hK9.1
                  have PU : Hid (∀ g2 cap2 w9, w9.ownsRow 0 74 3 (.slice (some ⟨g2, 0, none⟩) (rs.length + 1) cap2) (rs.length + 1) (flat rs ++ [.int .i64 y, .int .i64 A, .int .i64 z]) → (wr.alloc (.cells #[.int .i64 y, .int .i64 A, .int .i64 z] 74)).grownBy w9 (Value.slice av L capv).ownBlock → ((Value.slice av L capv).ownBlock = some g2 ∨ g2 = wr.heap.size + 1) → g2 < w9.heap.size →
                      ∃ rs e, ApL w1 w9 b bp (.slice (some ⟨g2, 0, none⟩) (L + 1) cap2) rs e ∧ Ap e rs ∧ e.p.pages = n ∧ rs.length ≤ k + 1) := by
                    intro g2 cap2 w9 h1 h2 h3 h4
                    have := Q8.out.push (q := ⟨y, A, z⟩) h1 h2 h3 h4
                    rw [HLL.out] at this
                    refine ⟨_, _, this, G9.out, hpg1.out, ?_⟩
                    rw [List.length_append, HLL.out]; simp; omega
                  rw [HLL.out] at hown PU
                  obtain ⟨i0, hi, hz0, hz1, hz2⟩ := info_parts info_run
                  clear hK9 Q8 c0 G8 G9 hmz2 hmz3
                  go_wp2_with (at_builtin; refine wpList_append_lies _ rfl (.tmp 174) (.tmp 181) 72 rfl 0 74 i0 (.agg #[.int .i64 0, .int .i64 0, .int .i64 0]) 3 24 under_runs hi hz0 hz1 hz2 rfl (by decide) _ _ _ rfl (hown.alloc _) ⟨wr.heap.size, 0, none⟩ 1 1 [.int .i64 y, .int .i64 A, .int .i64 z] rfl rfl (news_three _ _ _ _ _) (oneCell_three _ _ _) (by decide) (by unfold maxLen; omega) (by omega) (Nat.zero_le _) (wr.heap.size + 1) (by simp) ?_)
                  intro g2 cap2 w9 h1 hgrow hat hlt1
                  have Q : Hid (∃ rs e, ApL w1 w9 b bp (.slice (some ⟨g2, 0, none⟩) (L + 1) cap2) rs e ∧ Ap e rs ∧ e.p.pages = n ∧ rs.length ≤ k + 1) := PU.out g2 cap2 w9 h1 hgrow hat hlt1
                  clear h1 hgrow hat hlt1 hown PU x1 x2
                  go_wp2
                  go_roundw
                  case rel => exact ⟨k + 1, by omega, by go_num, Q.out⟩
                  case measure => simp [intOf]; omega
        · have hcb : (e.getCode y z != 0) = true := by simpa using hc
          have E : Hid (e.got y z = e) := got_no y z hc
          go_wp2_with fail
          refine (get_ax y z RR.out).mono ?_
          rw [E.out]
          rintro r w5 ⟨rfl, q⟩
          have Q : Hid (∃ rs e, ApL w1 w5 b bp (.slice av L capv) rs e ∧ Ap e rs ∧ e.p.pages = n ∧ rs.length ≤ k + 1) := ⟨rs, e, q.leave, hpg.out.2, hpg.out.1, by rw [HLL.out]; omega⟩
          generalize e.getCode y z = cc at *
          generalize e.getAt y z = A at *
          clear q RR hc
          go_wp2
          go_roundw
          case rel => exact ⟨k + 1, by omega, by go_num, Q.out⟩
          case measure => simp [intOf]; omega
      have c2' : (x == 2) = false := by simpa using c2
      clear c2
      have Q : Hid (∃ rs e, ApL w1 w4 b bp (.slice av L capv) rs e ∧ Ap e rs ∧ e.p.pages = n ∧ rs.length ≤ k + 1) := ⟨rs, e, RR.out.leave, hpg.out.2, hpg.out.1, by rw [HLL.out]; omega⟩
      clear RR
      go_wp2
      go_roundw
      case rel => exact ⟨k + 1, by omega, by go_num, Q.out⟩
      case measure => simp [intOf]; omega
    · have HB : Hid (Below w.heap.size w wr) := hbl
      have hok : Hid e.Ok := hR.ok
      have hfree := hR.ok.free
      rw [hpg0] at hfree
      have HR : Hid (ApL w1 wr b bp u7 rs e) := hR
      have hsz := b1.size
      have hsz2 := hR.done.size
      clear hbl hR hA hpg0
      generalize wr = wq at *
      go_wp2_with fail
      go_loopw [18, 19] (fun u i wx => ∃ q : Nat, q ≤ 16 ∧ i = .int .i64 q ∧ wx.ownsRow wq.heap.size 3 1 u (e.allTo q).length ((e.allTo q).map (Value.int .i64)) ∧ Below wq.heap.size wq wx) (fun _ i _ => 16 - (intOf i).toNat)
      case atStart => exact ⟨0, by omega, rfl, World.ownsRow_nil _ _ _ _, Below.refl _ _⟩
      case round =>
        obtain ⟨q, hq, rfl, hown, hbl⟩ := hrel
        have hq64 := hok.out.lenAll q
        by_cases hq16 : q < 16
        · have hq0 : (0 : Int) ≤ q := by omega
          have hq1 : (q : Int) < 16 := by omega
          have HO : Hid (wr.ownsRow wq.heap.size 3 1 u18 (e.allTo q).length ((e.allTo q).map (Value.int .i64)) ∧ Below wq.heap.size wq wr) := ⟨hown, hbl⟩
          clear hown hbl
          go_wp2_with fail
          refine (pages_al (q : Int) (HR.out.below HO.out.2)).mono ?_
          rw [pages_of_has hok.out q hq16]
          rintro r w5 ⟨ap, cp, rfl, hrow, hb5⟩
          have hpl := hok.out.len q
          have hlr := HO.out.2.size
          have hl5 := hb5.size
          have HP : Hid (Row w5 (fun x => wr.heap.size ≤ x) 3 (.slice ap (e.pagesAt q).length cp) (e.pagesAt q)) := hrow
          have HO5 : Hid (w5.ownsRow wq.heap.size 3 1 u18 (e.allTo q).length ((e.allTo q).map (Value.int .i64)) ∧ Below wq.heap.size wq w5) := by
            refine ⟨?_, HO.out.2.trans (hb5.mono hlr)⟩
            obtain ⟨h1, h2⟩ := HO.out.1
            refine ⟨h1, ?_⟩
            rcases h2 with h2 | ⟨g', cap', cur, hv, hg', hh, r⟩
            · exact Or.inl h2
            · exact Or.inr ⟨g', cap', cur, hv, hg', (hb5.block g' (lt_of_block hh)).trans hh, r⟩
          have HA : Hid (Row w5 (fun _ => True) 3 u18 (e.allTo q)) := by
            obtain ⟨h1, h2⟩ := HO5.out.1
            refine ⟨⟨by simp, ?_⟩, fun _ _ => trivial⟩
            rcases h2 with h2 | ⟨g', cap', cur, hv, hg', r⟩
            · exact Or.inl h2
            · exact Or.inr ⟨g', cap', cur, hv, Nat.zero_le _, r⟩
          have HN : Hid (∀ j, j < (e.pagesAt q).length → hasB (e.allTo q) ((e.pagesAt q).getD j 0) = false) := fun j hj => by
            have hnd := hok.out.nodup_allTo (q + 1)
            rw [Est.allTo, List.nodup_append] at hnd
            have hm : (e.pagesAt q).getD j 0 ∈ e.pagesAt q := by
              have : (e.pagesAt q).getD j 0 = (e.pagesAt q)[j] := by simp [List.getD, hj]
              rw [this]; exact List.getElem_mem hj
            simp only [hasB, List.contains_eq_mem, decide_eq_false_iff_not]
            exact fun h => hnd.2.2 _ h _ hm rfl
          have HC : Hid (∀ j, j < (e.pagesAt q).length → ∃ g0, ap = some ⟨g0, 0, none⟩ ∧ w5.cell? ⟨g0, j, none⟩ = some (.int .i64 ((e.pagesAt q).getD j 0))) := fun j hj => by
            obtain ⟨g0, h1, -, -, -, -⟩ := HP.out.head (by omega)
            subst h1
            exact ⟨g0, rfl, HP.out.cell j hj⟩
          have hlq : Hid (((e.allTo (q + 1)).length) = (e.allTo q).length + (e.pagesAt q).length ∧ (e.allTo (q + 1)).map (Value.int .i64) = (e.allTo q).map (Value.int .i64) ++ (e.pagesAt q).map (Value.int .i64)) := by
            rw [Est.allTo, List.length_append, List.map_append]; exact ⟨rfl, rfl⟩
          obtain ⟨lp, hlp⟩ : ∃ lp, (e.pagesAt q).length = lp := ⟨_, rfl⟩
          have HLP : Hid ((e.pagesAt q).length = lp) := hlp
          rw [hlp] at HP HN HC hlq hpl ⊢
          clear hrow HO hlp hb5
          generalize wr = wp at *
          go_wp2_with fail
          go_loop [21] (fun i => ∃ j : Nat, j ≤ lp ∧ i = .int .i64 j) (fun i => lp - (intOf i).toNat)
          case atStart => exact ⟨0, by omega, rfl⟩
          case round =>
            obtain ⟨j, hj, rfl⟩ := hrel
            by_cases hjl : j < lp
            · obtain ⟨g0, rfl, cj⟩ := HC.out j hjl
              have hno := HN.out j hjl
              generalize (e.pagesAt q).getD j 0 = pj at *
              have hj0 : (0 : Int) ≤ j := by omega
              have hj1 : (j : Int) < lp := by omega
              clear HC HN HP
              go_wp2_with fail
              refine (in_any w5 _ u18 (e.allTo q) pj HA.out (by omega)).mono ?_
              rw [hno]
              rintro r w6 ⟨rfl, hw⟩
              have hw := hw.symm
              subst hw
              clear hno
              go_wp2
              go_round
              case rel => exact ⟨j + 1, by omega, by go_num⟩
              case measure => simp [intOf]; omega
            · obtain ⟨i0, hi, hz0, hz1, hz2⟩ := info_parts info_int
              have hown := HO5.out.1
              have PU : Hid (∀ v' w9, w9.ownsRow wq.heap.size 3 1 v' ((e.allTo q).length + lp) ((e.allTo q).map (Value.int .i64) ++ (e.pagesAt q).map (Value.int .i64)) → w5.grownBy w9 u18.ownBlock → w9.ownsRow wq.heap.size 3 1 v' (e.allTo (q + 1)).length ((e.allTo (q + 1)).map (Value.int .i64)) ∧ Below wq.heap.size wq w9) := by
                intro v' w9 h1 hgrow
                rw [hlq.out.1, hlq.out.2]
                refine ⟨h1, HO5.out.2.grown hgrow (by omega) ?_⟩
                intro x hx
                obtain ⟨_, e | ⟨g', cap', cur, e, hge, _⟩⟩ := HO5.out.1
                · rw [e.1] at hx; simp [Value.ownBlock] at hx
                · rw [e] at hx; simp [Value.ownBlock] at hx; omega
              cases ap with
              | none =>
                have hl0 : lp = 0 ∧ cp = 0 := by
                  obtain ⟨a', cap', e', ha, -⟩ := HP.out.form
                  simp only [Value.slice.injEq] at e'
                  have := (ha e'.1.symm).1
                  have h3 := HLP.out
                  rw [this] at h3
                  exact ⟨by simpa using h3.symm, by rw [e'.2.2]; exact (ha e'.1.symm).2⟩
                obtain ⟨hl0, hc0⟩ := hl0
                have PN : Hid (w5.ownsRow wq.heap.size 3 1 u18 (e.allTo (q + 1)).length ((e.allTo (q + 1)).map (Value.int .i64)) ∧ Below wq.heap.size wq w5) := by
                  have h3 := HLP.out
                  rw [hl0] at h3
                  have h4 : e.pagesAt q = [] := List.length_eq_zero_iff.1 h3
                  rw [hlq.out.1, hlq.out.2, h4, hl0]
                  simp
                  exact HO5.out
                subst hl0 hc0
                clear HC HN HP HA HO5 PU hlq
                go_wp2_with (at_builtin; refine wpList_append_own_none rfl (.tmp 202) (.tmp 203) 39 rfl wq.heap.size 3 i0 1 under_ints hi _ _ _ rfl hown rfl ?_)
                go_roundw
                case rel => exact ⟨q + 1, by omega, by go_num, PN.out.1, PN.out.2⟩
                case measure => simp [intOf]; omega
              | some g0 =>
                obtain ⟨gp, hgp⟩ : ∃ gp, g0 = ⟨gp, 0, none⟩ := by
                  obtain ⟨a', cap', e', -, hs⟩ := HP.out.form
                  simp only [Value.slice.injEq] at e'
                  exact ⟨g0.block, (hs g0 e'.1.symm).1⟩
                subst hgp
                have hnews : Hid (∀ j u, ((e.pagesAt q).map (Value.int .i64))[j]? = some u → w5.cell? (Addr.add ⟨gp, 0, none⟩ j) = some u) := by
                  intro j u hj
                  have hjn : j < (e.pagesAt q).length := by
                    have := (List.getElem?_eq_some_iff.1 hj).1
                    simpa using this
                  rw [Addr.add_lit, Nat.zero_add, HP.out.cell j hjn]
                  rw [← hj]; simp [hjn]
                have HOne : Hid (∀ u, u ∈ (e.pagesAt q).map (Value.int .i64) → u.oneCell' = true) := by intro u hu; obtain ⟨x, _, rfl⟩ := List.mem_map.1 hu; rfl
                have hml : Hid (((e.pagesAt q).map (Value.int .i64)).length = lp * 1) := by show _ = _; simp [HLP.out]
                generalize (e.pagesAt q).map (Value.int .i64) = news at *
                generalize (e.allTo q).map (Value.int .i64) = olds at *
                generalize (e.allTo q).length = la at *
                clear HC HN HP HA HO5 hlq
                go_wp2_with (at_builtin; refine wpList_append_own _ rfl (.tmp 202) (.tmp 203) 39 rfl wq.heap.size 3 i0 (.int .i64 0) 1 8 under_ints hi hz0 hz1 hz2 rfl (by decide) _ _ _ rfl hown ⟨gp, 0, none⟩ lp cp news rfl hml.out hnews.out HOne.out (by unfold maxLen; omega) (by omega) (by omega) ?_)
                intro v' w9 h1 hgrow hnil
                have Q := PU.out v' w9 h1 hgrow
                have HQ : Hid (w9.ownsRow wq.heap.size 3 1 v' (e.allTo (q + 1)).length ((e.allTo (q + 1)).map (Value.int .i64)) ∧ Below wq.heap.size wq w9) := Q
                clear Q h1 hgrow hnil hown PU
                go_wp2
                go_roundw
                case rel => exact ⟨q + 1, by omega, by go_num, HQ.out.1, HQ.out.2⟩
                case measure => simp [intOf]; omega
        · have hqe : q = 16 := by omega
          subst hqe
          have HO : Hid (wr.ownsRow wq.heap.size 3 1 u18 e.all.length (e.all.map (Value.int .i64)) ∧ Below wq.heap.size wq wr) := ⟨hown, hbl⟩
          obtain ⟨au, cu, hu⟩ : ∃ au cu, u18 = .slice au e.all.length cu := by
            obtain ⟨_, h2⟩ := hown
            rcases h2 with h2 | ⟨g', cap', cur, hv, hg', r⟩
            · have : e.all.length = 0 := h2.2
              exact ⟨none, 0, by rw [this]; exact h2.1⟩
            · exact ⟨_, _, hv⟩
          subst hu
          have hfr : Hid (e.p.free = n - e.all.length) := hfree
          have hal : e.all.length ≤ 64 := hok.out.lenAll 16
          have HR2 : Hid (ApL w1 wr b bp u7 rs e) := HR.out.below HO.out.2
          have c0 := HR2.out.cell0
          have HB2 : Hid (Below w.heap.size w wr) := HB.out.trans (HO.out.2.mono (by omega))
          generalize e.all.length = al at *
          clear hown hbl hfree HO hq64
          go_wp2_with fail
          refine (free_al HR2.out).mono ?_
          rw [hfr.out]
          rintro r w6 ⟨rfl, m, rfl⟩
          have HB3 : Hid (Below w.heap.size w (wr.drewN m)) := ⟨HB2.out.os, HB2.out.tape, HB2.out.output, HB2.out.size, HB2.out.block⟩
          have hsum : (al : Int) + ((n : Int) - al) = n := by omega
          have hsum2 : ((n : Int) == n) = true := by simp
          go_wp2
          go_ret
          refine ⟨?_, HB3.out⟩
          simp

end Go.Proofs.Ytphindejlinleaa
