/-
  The walk of PoolOnce: called with any number of pages and any steps it returns true and leaves what was there as it was.
-/
import Derived.Test.YtoljcjefaeimgaaOnce
import Derived.Test.YtoljcjefaeimgaaArgs
import Derived.Deep.DeepCutAuto
import Derived.Deep.CutBlock
namespace Go.Proofs.Ytoljcjefaeimgaa
open Go.ChangeShapes Go.WideShapes Go.ChangeAt Go.RowKit
set_option linter.unusedVariables false

theorem once_great (w : World) (pages : Int) (a : Option Addr) (len cap : Nat) (hlen : 500 < (len : Int)) :
    Calls Try.prog 6 #[.int .i64 pages, .slice a len cap] w fun e w' => e = .returned (.bool true) ∧ Below w.heap.size w w' := by
  have hd : decide (500 < (len : Int)) = true := by simpa using hlen
  go_enter Try.func6, Try.ntmps6
  go_wp2_with fail
  refine (begun_any _).mono ?_
  rintro e w1 ⟨rfl, b1⟩
  go_wp2_with fail
  refine (great_any _ _ _ _).mono ?_
  rintro e w1 ⟨rfl, rfl⟩
  go_wp2
  go_ret
  exact ⟨rfl, b1⟩

theorem once_no (w : World) (pages : Int) (a : Option Addr) (len cap : Nat) (hlen : ¬ 500 < (len : Int)) (h : pages < 0 ∨ 64 < pages) :
    Calls Try.prog 6 #[.int .i64 pages, .slice a len cap] w fun e w' => e = .returned (.bool true) ∧ Below w.heap.size w w' := by
  have hd : decide (500 < (len : Int)) = false := by simpa using hlen
  go_enter Try.func6, Try.ntmps6
  go_wp2_with fail
  refine (begun_any _).mono ?_
  rintro e w1 ⟨rfl, b1⟩
  go_wp2_with fail
  refine (great_any _ _ _ _).mono ?_
  rintro e w1 ⟨rfl, rfl⟩
  go_wp2_with fail
  refine (new_no _ _ h).mono ?_
  rintro e w2 ⟨rfl, b2⟩
  go_wp2
  go_ret
  exact ⟨rfl, (b1.trans (b2.mono b1.size)).alloc (by have := b1.size; have := b2.size; omega) _⟩

theorem Once.start {w w1 : World} {b n : Nat} {o : Obj} (h1 : PoolAt w1 b (fun x => w.heap.size ≤ x ∧ x < w1.heap.size) (St.new n)) (k1 : Below w.heap.size w w1) : Once w (w1.alloc o) b (St.new n) (.slice none 0 0) [] := by
  have k3 : Below w1.heap.size w1 (w1.alloc o) := (Below.refl _ _).alloc (Nat.le_refl _) _
  refine ⟨_, fun _ => False, h1.step (Step.none_below k3) (fun _ _ h => h), Row.nil _ _ _, fun _ _ h => h, ?_, fun _ h => h.elim, k1.trans (k3.mono k1.size)⟩
  rintro x ⟨h, h'⟩
  simp; omega

set_option maxRecDepth 100000 in
set_option maxHeartbeats 4000000 in
theorem once_yes (w : World) (n : Nat) (hn : n ≤ 64) (a : Option Addr) (len cap : Nat) (hlen : ¬ 500 < (len : Int)) (F : Nat → Nat → Int) (hl : Lies w a len 3 F) :
    Calls Try.prog 6 #[.int .i64 n, .slice a len cap] w fun e w' => e = .returned (.bool true) ∧ Below w.heap.size w w' := by
  have hd : decide (500 < (len : Int)) = false := by simpa using hlen
  have hL : Hid (Lies w a len 3 F) := hl
  clear hl
  go_enter Try.func6, Try.ntmps6
  go_wp2_with fail
  refine (begun_any _).mono ?_
  rintro e w1 ⟨rfl, b1⟩
  go_wp2_with fail
  refine (great_any _ _ _ _).mono ?_
  rintro e w1 ⟨rfl, rfl⟩
  go_wp2_with fail
  refine (new_yes _ n hn).mono ?_
  rintro e w2 ⟨b, rfl, p1, b2⟩
  have B1 : Hid (∀ o, Once w1 (w2.alloc o) b (St.new n) (.slice none 0 0) []) := fun o => Once.start p1 b2
  clear p1 b2 hd
  go_wp2_with fail
  go_loopw [7, 8] (fun v i wr => ∃ k : Nat, k ≤ len ∧ i = .int .i64 k ∧ ∃ s T, s.pages = n ∧ Tk s T ∧ Once w1 wr b s v T) (fun _ i _ => len - (intOf i).toNat)
  case atStart => exact ⟨0, Nat.zero_le _, rfl, _, _, rfl, Tk.new n, B1.out _⟩
  case round =>
    clear B1
    obtain ⟨k, hk, rfl, s, T, hs, hT, hB⟩ := hrel
    by_cases hlt : k < len
    · obtain ⟨g, o, rfl, hc⟩ := hL.out k hlt
      have hbl := b1.trans (hB.done.mono b1.size)
      have H1 : Hid (∀ wx, Below wr.heap.size wr wx → wx.cell? ⟨g, o + k * 3 + 0, none⟩ = some (.int .i64 (F k 0)) ∧ wx.cell? ⟨g, o + k * 3 + 1, none⟩ = some (.int .i64 (F k 1)) ∧ wx.cell? ⟨g, o + k * 3 + 2, none⟩ = some (.int .i64 (F k 2))) := by
        intro wx hx
        have key : ∀ j, j < 3 → wx.cell? ⟨g, o + k * 3 + j, none⟩ = some (.int .i64 (F k j)) := fun j hj => by
          have h1 := hc j hj
          have hlt' := World.block_lt_of_cell? w ⟨g, o + k * 3 + j, none⟩ h1
          have hz := hbl.size
          rw [hx.cell (p := ⟨g, o + k * 3 + j, none⟩) (Nat.lt_of_lt_of_le hlt' hz), hbl.cell (p := ⟨g, o + k * 3 + j, none⟩) hlt']
          exact h1
        exact ⟨key 0 (by omega), key 1 (by omega), key 2 (by omega)⟩
      obtain ⟨d0, d1, d2⟩ := H1.out wr (Below.refl _ _)
      rw [Nat.add_zero] at d0
      clear hc hbl
      generalize F k 0 = x at d0 H1
      generalize F k 1 = y at d1 H1
      generalize F k 2 = z at d2 H1
      have hlenT := hT.len hB.ok
      have hlenT64 : (T.length : Int) ≤ 64 := by have := hB.ok.high; have := hB.ok.most; omega
      obtain ⟨Q0, hrow⟩ := hB.row
      obtain ⟨av, capv, rfl, -, -⟩ := hrow.form
      clear hrow hlenT
      have BB : Hid (Once w1 wr b s (.slice av T.length capv) T ∧ Tk s T ∧ s.pages = n ∧ s.Ok) := ⟨hB, hT, hs, hB.ok⟩
      clear hB hs hT
      by_cases c0 : x = 0
      · have c0' : (x == 0) = true := by simpa using c0
        clear c0
        by_cases hneg : s.nextK < 0
        · have hTn := BB.out.2.1.none BB.out.2.2.2 hneg
          rw [BB.out.2.2.1] at hTn
          have hTn' : ((T.length : Int) != (n : Int)) = false := by simpa using hTn
          clear hTn
          go_wp2_with fail
          refine (take_once BB.out.1).mono ?_
          rintro e w6 ⟨rfl, q1⟩
          rw [St.take_none BB.out.2.2.2 hneg] at q1
          generalize s.nextK = kk at hneg ⊢
          have Q : Hid (∃ s T', s.pages = n ∧ Tk s T' ∧ Once w1 w6 b s (.slice av T.length capv) T') := ⟨s, T, BB.out.2.2.1, BB.out.2.1, q1⟩
          clear q1 BB
          go_wp2
          go_roundw
          case rel => exact ⟨k + 1, by omega, by go_num, Q.out⟩
          case measure => simp [intOf]; omega
        · --A
          obtain ⟨kk, hkk⟩ := Int.eq_ofNat_of_zero_le (show 0 ≤ s.nextK by omega)
          have hlt2 := (St.nextK_lt BB.out.2.2.2).2
          rw [hkk, BB.out.2.2.1] at hlt2
          have htk0 := BB.out.2.1.take BB.out.2.2.2 (by omega)
          rw [hkk] at htk0
          have hno : hasB T kk = false := by simpa [hasB] using htk0.1
          have hpg : s.take.pages = n := by rw [St.pages_take]; exact BB.out.2.2.1
          have htk := htk0.2
          have HW : Hid (∀ j : Nat, j < 16 → s.take.load ((kk : Int) * 16 + j) = 0 ∧ s.take.place ((kk : Int) * 16 + j) = true) := fun j hj => take_words BB.out.2.2.2 hkk j hj
          clear htk0 hneg
          go_wp2_with fail
          refine (take_once BB.out.1).mono ?_
          rw [hkk]
          rintro e w6 ⟨rfl, q1⟩
          clear BB hkk d0 d1 d2 H1
          have HP : Hid (s.take.pages = n) := hpg
          have HT : Hid (Tk s.take (T ++ [(kk : Int)])) := htk
          have Q1 : Hid (Once w1 w6 b s.take (.slice av T.length capv) T) := q1
          clear hpg htk q1
          generalize s.take = s' at *
          have hb1 : decide ((kk : Int) < 0) = false := by simp
          have hb2 : decide ((n : Int) ≤ (kk : Int)) = false := by simp; omega
          have hb3 : decide (n ≤ kk) = false := by simp; omega
          go_wp2_with fail
          refine (in_once kk (by omega) Q1.out).mono ?_
          rw [hno]
          rintro e w7 ⟨rfl, rfl⟩
          clear hno
          go_wp2_with fail
          go_loopw [10] (fun i wx => Hid (wx = w7) ∧ ∃ j : Nat, j ≤ 16 ∧ i = .int .i64 j) (fun i _ => 16 - (intOf i).toNat)
          case atStart => exact ⟨show Hid (w7 = w7) from rfl, 0, by omega, rfl⟩
          case round =>
            obtain ⟨hwr, j, hj, rfl⟩ := hrel
            have hwr := hwr.out.symm
            subst hwr
            by_cases hj16 : j < 16
            · obtain ⟨l1, l2⟩ := HW.out j hj16
              have C : Hid (Calls Try.prog 19 #[.pointer (some ⟨b, 0, none⟩), .int .i64 ((kk : Int) * 16 + j)] w7 fun e w' => e = .returned (.tuple #[.int .i64 0, .bool true]) ∧ w' = w7) := by
                have := load_once ((kk : Int) * 16 + j) Q1.out
                rw [l1, l2] at this; exact this
              clear l1 l2
              go_wp2_with fail
              refine (C.out).mono ?_
              rintro e w8 ⟨rfl, hw8⟩
              have hw8 := hw8.symm
              subst hw8
              go_wp2
              go_roundw
              case rel => exact ⟨show Hid True from trivial, j + 1, by omega, by go_num⟩
              case measure => simp [intOf]; omega
            · obtain ⟨Qx, hrow⟩ := Q1.out.row
              have hown := hrow.1
              have PU : Hid (∀ g2 cap2 w9, w9.ownsRow 0 3 1 (.slice (some ⟨g2, 0, none⟩) (T.length + 1) cap2) (T.length + 1) (T.map (Value.int .i64) ++ [.int .i64 kk]) → (w7.alloc (.cells #[.int .i64 kk] 3)).grownBy w9 (Value.slice av T.length capv).ownBlock →
                  ((Value.slice av T.length capv).ownBlock = some g2 ∨ g2 = w7.heap.size + 1) → g2 < w9.heap.size → Once w1 w9 b s' (.slice (some ⟨g2, 0, none⟩) (T.length + 1) cap2) (T ++ [(kk : Int)])) := by
                exact fun g2 cap2 w9 h1 h2 h3 h4 => Q1.out.push h1 h2 h3 h4
              clear hrow HW Q1
              obtain ⟨i0, hi, hz0, hz1, hz2⟩ := info_parts info_int
              go_wp2_with (at_builtin; refine wpList_append_lies _ rfl (.tmp 75) (.tmp 77) 39 rfl 0 3 i0 (.int .i64 0) 1 8 under_ints hi hz0 hz1 hz2 rfl (by decide) _ _ _ rfl (hown.alloc _) ⟨w7.heap.size, 0, none⟩ 1 1 [.int .i64 kk] rfl rfl (news_one _ _ _) (oneCell_one _) (by decide) (by unfold maxLen; omega) (by omega) (Nat.zero_le _) (w7.heap.size + 1) (by simp) ?_)
              intro g2 cap2 w9 h1 hgrow hat hlt1
              have q3 := PU.out g2 cap2 w9 h1 hgrow hat hlt1
              clear h1 hgrow hat hlt1 hown PU
              have hpg := HP.out
              have htk := HT.out
              go_wp2_with fail
              refine (free_once q3).mono ?_
              rintro e w8 ⟨rfl, m8, rfl⟩
              have Q : Hid (∃ s' T', s'.pages = n ∧ Tk s' T' ∧ Once w1 (w9.drewN m8) b s' (.slice (some ⟨g2, 0, none⟩) (T.length + 1) cap2) T') := ⟨s', T ++ [(kk : Int)], hpg, htk, q3.drewN m8⟩
              have hfr := htk.free q3.ok
              rw [hpg] at hfr
              rw [hfr]
              have hll : ((T ++ [(kk : Int)]).length : Int) = T.length + 1 := by simp
              rw [hll]
              clear q3 hpg htk hfr hll
              go_wp2
              go_roundw
              case rel => exact ⟨k + 1, by omega, by go_num, Q.out⟩
              case measure => simp [intOf]; omega
      have c0' : (x == 0) = false := by simpa using c0
      clear c0
      by_cases c1 : x = 1
      · have c1' : (x == 1) = true := by simpa using c1
        clear c1
        generalize wr = wq at *
        have H2 : Hid (∀ wx, Below wq.heap.size wq wx → ∀ j, j < T.length → ∃ gt ot, av = some ⟨gt, ot, none⟩ ∧ wx.cell? ⟨gt, ot + j, none⟩ = some (.int .i64 (T.getD j 0))) := by
          intro wx hx j hj
          obtain ⟨Qx, hrow⟩ := BB.out.1.row
          obtain ⟨a', cap', e, ha⟩ := hrow.longs.below hx
          simp only [Value.slice.injEq] at e
          obtain ⟨rfl, -, rfl⟩ := e
          exact ha j hj
        obtain ⟨lt, hlt3⟩ : ∃ lt, T.length = lt := ⟨_, rfl⟩
        have LT : Hid (T.length = lt) := hlt3
        rw [hlt3] at BB H2 hlenT64 ⊢
        clear hlt3
        go_wp2_with fail
        go_loopw [13, 14] (fun v i wx => ∃ j : Nat, j ≤ lt ∧ i = .int .i64 j ∧ wx.ownsRow wq.heap.size 3 1 v (but (T.take j) y).length ((but (T.take j) y).map (Value.int .i64)) ∧ Below wq.heap.size wq wx) (fun _ i _ => lt - (intOf i).toNat)
        case atStart => exact ⟨0, by omega, rfl, World.ownsRow_nil _ _ _ _, Below.refl _ _⟩
        case round =>
          obtain ⟨j, hj, rfl, hown, hbl⟩ := hrel
          have hbt := but_take_len T y j
          rw [LT.out] at hbt
          by_cases hjl : j < lt
          · obtain ⟨gt, ot, rfl, hcj⟩ := H2.out wr hbl j hjl
            have hsucc := but_take_succ T y j (by rw [LT.out]; exact hjl)
            obtain ⟨q, hq⟩ : ∃ q, T.getD j 0 = q := ⟨_, rfl⟩
            rw [hq] at hcj hsucc
            obtain ⟨-, e1, -⟩ := H1.out wr hbl
            have U : Hid (∀ m, (wr.drewN m).ownsRow wq.heap.size 3 1 u13 (but (T.take j) y).length ((but (T.take j) y).map (Value.int .i64)) ∧ Below wq.heap.size wq (wr.drewN m)) := fun m => ⟨hown, ⟨hbl.os, hbl.tape, hbl.output, hbl.size, hbl.block⟩⟩
            have hj0 : (0 : Int) ≤ j := by omega
            have hj1 : (j : Int) < lt := by omega
            have hk0 : (0 : Int) ≤ k := by omega
            have hk1 : (k : Int) < len := by omega
            clear hown hbl hq d0 d1 d2
            by_cases hqy : q = y
            · have hqy' : (q != y) = false := by simpa using hqy
              rw [if_pos hqy] at hsucc
              have S : Hid (but (T.take (j + 1)) y = but (T.take j) y) := hsucc
              clear hqy hsucc
              go_wp2_with fail
              go_quiet (fail)
              have U2 : Hid ((wr.drewN nq).ownsRow wq.heap.size 3 1 u13 (but (T.take (j + 1)) y).length ((but (T.take (j + 1)) y).map (Value.int .i64)) ∧ Below wq.heap.size wq (wr.drewN nq)) := by rw [S.out]; exact U.out nq
              clear U
              go_wp2
              go_roundw
              case rel => exact ⟨j + 1, by omega, by go_num, U2.out.1, U2.out.2⟩
              case measure => simp [intOf]; omega
            · have hqy' : (q != y) = true := by simpa using hqy
              rw [if_neg hqy] at hsucc
              have S : Hid (but (T.take (j + 1)) y = but (T.take j) y ++ [q]) := hsucc
              clear hqy hsucc
              go_wp2_with fail
              go_quiet (fail)
              obtain ⟨hown, hbl⟩ := U.out nq
              have hcj' : (wr.drewN nq).cell? ⟨gt, ot + j, none⟩ = some (.int .i64 q) := hcj
              generalize wr.drewN nq = wy at hown hbl hcj' ⊢
              clear hcj e1 U
              have hsz := hbl.size
              obtain ⟨i0, hi, hz0, hz1, hz2⟩ := info_parts info_int
              go_wp2_with (at_builtin; refine wpList_append_lies _ rfl (.tmp 97) (.tmp 102) 39 rfl wq.heap.size 3 i0 (.int .i64 0) 1 8 under_ints hi hz0 hz1 hz2 rfl (by decide) _ _ _ rfl (hown.alloc _) ⟨wy.heap.size, 0, none⟩ 1 1 [.int .i64 q] rfl rfl (news_one _ _ _) (oneCell_one _) (by decide) (by unfold maxLen; omega) (by omega) (by simp; omega) (wy.heap.size + 1) (by simp) ?_)
              intro g2 cap2 w9 h1 hgrow hat hlt1
              have U2 : Hid (w9.ownsRow wq.heap.size 3 1 (.slice (some ⟨g2, 0, none⟩) ((but (T.take j) y).length + 1) cap2) (but (T.take (j + 1)) y).length ((but (T.take (j + 1)) y).map (Value.int .i64)) ∧ Below wq.heap.size wq w9) := by
                have hlt9 : ∀ x, u13.ownBlock = some x → wq.heap.size ≤ x := by
                  intro x hx
                  obtain ⟨_, e | ⟨g', cap', cur, e, hge, _⟩⟩ := hown
                  · rw [e.1] at hx; simp [Value.ownBlock] at hx
                  · rw [e] at hx; simp [Value.ownBlock] at hx; omega
                refine ⟨?_, ?_⟩
                · rw [S.out, List.map_append, List.length_append]; exact h1
                · exact (hbl.alloc hsz _).grown hgrow (by simp; omega) hlt9
              clear h1 hgrow hat hlt1 hown hbl
              go_wp2
              go_roundw
              case rel => exact ⟨j + 1, by omega, by go_num, U2.out.1, U2.out.2⟩
              case measure => simp [intOf]; omega
          · have hjlt : j = lt := by omega
            have htt : T.take j = T := by rw [hjlt, ← LT.out]; simp
            rw [htt] at hown hbt
            have q1 := BB.out.1.other hbl hown
            obtain ⟨Qx, hrow⟩ := q1.row
            obtain ⟨a2, cap2, rfl, -, -⟩ := hrow.form
            obtain ⟨-, e1, -⟩ := H1.out wr hbl
            obtain ⟨htk, hgv⟩ := BB.out.2.1.give y
            rw [LT.out] at hgv
            have hpg : (s.give y).pages = n := by rw [St.pages_give]; exact BB.out.2.2.1
            have Q1 : Hid (Once w1 wr b s (.slice a2 (but T y).length cap2) (but T y)) := q1
            have HG : Hid (s.took y = decide (((but T y).length : Int) < lt)) := hgv
            have HT : Hid (Tk (s.give y) (but T y) ∧ (s.give y).pages = n) := ⟨htk, hpg⟩
            clear hown hbl q1 hrow htt hjlt htk hgv hpg d0 d1 d2 H2 BB H1
            generalize but T y = U at *
            obtain ⟨lu, hlu⟩ : ∃ lu, U.length = lu := ⟨_, rfl⟩
            rw [hlu] at HG hbt Q1 ⊢
            have hk0 : (0 : Int) ≤ k := by omega
            have hk1 : (k : Int) < len := by omega
            have HU : Hid (U.length = lu) := hlu
            clear hlu
            go_wp2_with fail
            refine (give_once y Q1.out).mono ?_
            rw [HG.out]
            rintro e w6 ⟨rfl, q3⟩
            obtain ⟨htk, hpg⟩ := HT.out
            clear Q1 HG HT
            generalize s.give y = s' at *
            go_wp2_with fail
            refine (free_once q3).mono ?_
            rintro e w8 ⟨rfl, m8, rfl⟩
            have Q : Hid (∃ s' T', s'.pages = n ∧ Tk s' T' ∧ Once w1 (w6.drewN m8) b s' (.slice a2 lu cap2) T') := ⟨s', U, hpg, htk, q3.drewN m8⟩
            have hfr := htk.free q3.ok
            rw [hpg] at hfr
            rw [hfr]
            rw [HU.out]
            clear q3 hpg htk hfr
            go_wp2
            go_roundw
            case rel => exact ⟨k + 1, by omega, by go_num, Q.out⟩
            case measure => simp [intOf]; omega
      have c1' : (x == 1) = false := by simpa using c1
      clear c1
      have hk0 : (0 : Int) ≤ k := by omega
      have hk1 : (k : Int) < len := by omega
      by_cases c2 : x = 2
      · have c2' : (x == 2) = true := by simpa using c2
        clear c2
        go_upto_region 38 with fail
        go_region_with (go_at_call 18; refine (store_once y z (by first | exact BB.out.1 | exact BB.out.1.drew)).mono ?_; rintro e w6 ⟨rfl, q3⟩)
        all_goals
          have htk := BB.out.2.1.store y z
          have hpg : (s.store y z).pages = n := by rw [St.pages_store]; exact BB.out.2.2.1
          generalize s.store y z = s' at *
          go_wp2_with fail
          refine (free_once q3).mono ?_
          rintro e w8 ⟨rfl, m8, rfl⟩
          have Q : Hid (∃ s' T', s'.pages = n ∧ Tk s' T' ∧ Once w1 (w6.drewN m8) b s' (.slice av T.length capv) T') := ⟨s', T, hpg, htk, q3.drewN m8⟩
          have hfr := htk.free q3.ok
          rw [hpg] at hfr
          rw [hfr]
          clear q3 hpg htk hfr BB
          go_wp2
          go_roundw
          case rel => exact ⟨k + 1, by omega, by go_num, Q.out⟩
          case measure => simp [intOf]; omega
      · have c2' : (x == 2) = false := by simpa using c2
        clear c2
        have q3 := BB.out.1
        have htk := BB.out.2.1
        have hpg := BB.out.2.2.1
        go_wp2_with fail
        refine (free_once q3).mono ?_
        rintro e w8 ⟨rfl, m8, rfl⟩
        have Q : Hid (∃ s' T', s'.pages = n ∧ Tk s' T' ∧ Once w1 (wr.drewN m8) b s' (.slice av T.length capv) T') := ⟨s, T, hpg, htk, q3.drewN m8⟩
        have hfr := htk.free q3.ok
        rw [hpg] at hfr
        rw [hfr]
        clear q3 hpg htk hfr BB
        go_wp2
        go_roundw
        case rel => exact ⟨k + 1, by omega, by go_num, Q.out⟩
        case measure => simp [intOf]; omega
    · go_wp2
      go_ret
      exact ⟨rfl, b1.trans (hB.done.mono b1.size)⟩

end Go.Proofs.Ytoljcjefaeimgaa
