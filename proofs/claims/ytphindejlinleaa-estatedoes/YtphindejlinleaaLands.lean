/-
  Contracts of the document's own estate (copyholdref.Lands): what it answers, and the state that it is in then; all other memory stays as it was.
-/
import Derived.Test.YtphindejlinleaaLandsM
import Derived.Deep.QuietTactic
import Derived.BigQuiet
import Derived.Deep.RegionHeld3
import Derived.Deep.DeepCutAuto
import Derived.Deep.CutBlock
namespace Go.Proofs.Ytphindejlinleaa
open Go.ChangeShapes Go.WideShapes Go.ChangeAt Go.RowKit
set_option linter.unusedVariables false

theorem lhas_any (w : World) (b bp gl : Nat) (O : Nat → Prop) (e : Est) (k : Int) (h : LandMem w b bp gl O e) :
    Calls Try.prog 37 #[.pointer (some ⟨b, 0, none⟩), .int .i64 k] w fun r w' => r = .returned (.bool (e.has k)) ∧ w' = w := by
  obtain ⟨L, v, h⟩ := h
  obtain ⟨c0, c1⟩ := h.cells
  by_cases h1 : 0 ≤ k
  · by_cases h2 : k < 16
    · obtain ⟨j, rfl⟩ := Int.eq_ofNat_of_zero_le h1
      have c := h.at0 j (by omega)
      have E : Hid (e.has j = (e.reg j).isSome) := by show _ = _; simp [Est.has]; omega
      generalize (e.reg j).isSome = t at c E
      clear h
      cases t
      all_goals
        go_enter Try.func37, Try.ntmps37
        go_wp2
        go_ret
        exact ⟨by rw [E.out]; rfl, rfl⟩
    · have E : Hid (e.has k = false) := Est.has_out (by omega)
      clear h
      go_enter Try.func37, Try.ntmps37
      go_wp2
      go_ret
      exact ⟨by rw [E.out]; rfl, rfl⟩
  · have E : Hid (e.has k = false) := Est.has_out (by omega)
    clear h
    go_enter Try.func37, Try.ntmps37
    go_wp2
    go_ret
    exact ⟨by rw [E.out]; rfl, rfl⟩

theorem lcount_any (w : World) (b bp gl : Nat) (O : Nat → Prop) (e : Est) (h : LandMem w b bp gl O e) :
    Calls Try.prog 39 #[.pointer (some ⟨b, 0, none⟩)] w fun r w' => r = .returned (.int .i64 e.count) ∧ w' = w := by
  obtain ⟨L, v, h⟩ := h
  obtain ⟨c0, c1⟩ := h.cells
  have HC : Hid (∀ k, k < 16 → w.cell? ⟨gl, k * 3, none⟩ = some (.bool (e.reg k).isSome)) := h.at0
  clear h
  go_enter Try.func39, Try.ntmps39
  go_wp2
  go_loop [3, 4] (fun n i => ∃ k : Nat, k ≤ 16 ∧ i = .int .i64 k ∧ n = .int .i64 (countTo e.reg k)) (fun _ i => 16 - (intOf i).toNat)
  case atStart => exact ⟨0, by omega, rfl, rfl⟩
  case round =>
    obtain ⟨k, hk, rfl, rfl⟩ := hrel
    have hc := countTo_le e.reg k
    by_cases hlt : k < 16
    · have ck := HC.out k hlt
      have hk0 : (0 : Int) ≤ k := by omega
      have hk1 : (k : Int) < 16 := by omega
      cases hr : (e.reg k).isSome with
      | false =>
        have E : Hid (countTo e.reg (k + 1) = countTo e.reg k) := by show _ = _; simp [countTo, hr]
        rw [hr] at ck
        clear hr
        go_wp2
        go_round
        case rel => exact ⟨k + 1, by omega, by go_num, by rw [E.out]⟩
        case measure => simp [intOf]; omega
      | true =>
        have E : Hid (countTo e.reg (k + 1) = countTo e.reg k + 1) := by show _ = _; simp [countTo, hr]
        rw [hr] at ck
        clear hr
        go_wp2
        go_round
        case rel => exact ⟨k + 1, by omega, by go_num, by rw [E.out]⟩
        case measure => simp [intOf]; omega
    · have e16 : k = 16 := by omega
      subst e16
      have E : Hid (countTo e.reg 16 = e.count) := rfl
      go_wp2
      go_ret
      exact ⟨by rw [E.out]; rfl, rfl⟩

theorem lopen_any (w : World) (b bp gl : Nat) (O : Nat → Prop) (e : Est) (h : LandMem w b bp gl O e) :
    Calls Try.prog 31 #[.pointer (some ⟨b, 0, none⟩)] w fun r w' => r = .returned (.int .i64 e.openK) ∧ LandMem w' b bp gl (grow O w w') e.opened ∧ Step O (grow O w w') w w' := by
  have HH : Hid (LandMem w b bp gl O e) := h
  obtain ⟨L, v, h⟩ := h
  obtain ⟨c0, c1⟩ := h.cells
  have HP : Hid (LParts w b O e L bp gl v) := h
  clear h
  go_enter Try.func31, Try.ntmps31
  go_wp2
  go_loop [3] (fun i => ∃ k : Nat, k ≤ 16 ∧ i = .int .i64 k ∧ ∀ j, j < k → e.reg j ≠ none) (fun i => 16 - (intOf i).toNat)
  case atStart => exact ⟨0, by omega, rfl, fun j hj => by omega⟩
  case round =>
    obtain ⟨k, hk, rfl, hno⟩ := hrel
    by_cases hlt : k < 16
    · have ck := HP.out.at0 k hlt
      have hk0 : (0 : Int) ≤ k := by omega
      have hk1 : (k : Int) < 16 := by omega
      cases hr : e.reg k with
      | none =>
        have E : Hid (e.openK = k ∧ e.opened = e.set k (some ⟨[], 0⟩)) := Est.open_yes hno hlt hr
        have Q := HP.out.setWhole k hlt (some ⟨[], 0⟩) (Or.inr rfl)
        have D : Hid (LandMem (((w.setCell ⟨gl, k * 3, none⟩ (.bool true)).setCell ⟨gl, k * 3 + 1, none⟩ (.slice none 0 0)).setCell ⟨gl, k * 3 + 2, none⟩ (.int .i64 0)) b bp gl O (e.set k (some ⟨[], 0⟩)) ∧ Step O O w (((w.setCell ⟨gl, k * 3, none⟩ (.bool true)).setCell ⟨gl, k * 3 + 1, none⟩ (.slice none 0 0)).setCell ⟨gl, k * 3 + 2, none⟩ (.int .i64 0))) := ⟨⟨_, _, Q.1⟩, Q.2⟩
        have ck1 := HP.out.at1 k hlt
        have ck2 := HP.out.at2 k hlt
        have f0 := HP.out.lands.frozen (k * 3)
        have f1 := HP.out.lands.frozen (k * 3 + 1)
        have f2 := HP.out.lands.frozen (k * 3 + 2)
        rw [hr] at ck
        clear hr hno Q
        go_wp2
        go_ret
        rw [E.out.1, E.out.2]
        have eg : grow O w (((w.setCell ⟨gl, k * 3, none⟩ (.bool true)).setCell ⟨gl, k * 3 + 1, none⟩ (.slice none 0 0)).setCell ⟨gl, k * 3 + 2, none⟩ (.int .i64 0)) = grow O w w := by unfold grow; simp
        rw [eg]
        exact ⟨rfl, D.out.1.mono (fun x hx hl => ⟨Or.inl hx, by simpa using hl⟩), D.out.2.sub (fun x hx => hx.1.elim id (fun hge => by have := hx.2; omega))⟩
      | some r =>
        have N : Hid (∀ j, j < k + 1 → e.reg j ≠ none) := fun j hj => by
          rcases Nat.lt_succ_iff_lt_or_eq.1 hj with h' | h'
          · exact hno j h'
          · subst h'; rw [hr]; simp
        rw [hr] at ck
        clear hr hno
        go_wp2
        go_round
        case rel => exact ⟨k + 1, by omega, by go_num, N.out⟩
        case measure => simp [intOf]; omega
    · have E : Hid (e.openK = -1 ∧ e.opened = e) := Est.open_no (fun j hj => hno j (by omega))
      clear hno
      go_wp2
      go_ret
      rw [E.out.1, E.out.2]
      exact ⟨rfl, HH.out.refl_grow, Step.refl_grow O w⟩

theorem ltake_succ (l : List Int) (j : Nat) (hj : j < l.length) : l.take (j + 1) = l.take j ++ [l.getD j 0] := by
  rw [List.take_succ_eq_append_getElem hj]; simp [List.getD, hj]

set_option maxHeartbeats 1600000 in
theorem lshut_any (w : World) (b bp gl : Nat) (O : Nat → Prop) (e : Est) (k : Int) (h : LandAt w b bp gl O e) :
    Calls Try.prog 33 #[.pointer (some ⟨b, 0, none⟩), .int .i64 k] w fun r w' => r = .returned (.bool (e.has k)) ∧ LandMem w' b bp gl (grow O w w') (e.shut k) ∧ Step O (grow O w w') w w' := by
  have C : Hid (Calls Try.prog 37 #[.pointer (some ⟨b, 0, none⟩), .int .i64 k] w fun r w' => r = .returned (.bool (e.has k)) ∧ w' = w) := lhas_any w b bp gl O e k h.1
  cases hh : e.has k with
  | false =>
    have E : Hid (e.shut k = e) := Est.shut_no hh
    have HH : Hid (LandMem w b bp gl O e) := h.1
    rw [hh] at C
    clear h hh
    go_enter Try.func33, Try.ntmps33
    go_wp2_with (go_at_call 37; refine (C.out).mono ?_; rintro e w' ⟨rfl, rfl⟩)
    go_ret
    rw [E.out]
    exact ⟨rfl, HH.out.refl_grow, Step.refl_grow O _⟩
  | true =>
    rw [hh] at C
    obtain ⟨j, r, rfl, hj, hr⟩ := Est.has_true hh
    have E : Hid (e.shut j = (e.set j none).withP (e.p.giveAll r.pages)) := Est.shut_yes hj hr
    have hlen := h.2.lenR hr
    obtain ⟨⟨L, v, hp⟩, hok⟩ := h
    obtain ⟨a, cap, hva, -, -⟩ := (hp.rows j hj).form
    rw [Est.at_some hr] at hva
    have HV : Hid (v j = .slice a r.pages.length cap ∧ e.pagesAt j = r.pages) := ⟨hva, Est.at_some hr⟩
    have P0 : Hid (∃ L', LParts w b (grow O w w) (e.withP (e.p.giveAll (r.pages.take 0))) L' bp gl v ∧ Step O (grow O w w) w w) := ⟨L, hp.mono grow_self, Step.refl_grow O w⟩
    obtain ⟨len, hl⟩ : ∃ len, r.pages.length = len := ⟨_, rfl⟩
    have HL : Hid (r.pages.length = len) := hl
    rw [hl] at hlen HV
    clear hp hok hr hh hl hva
    have hj0 : (0 : Int) ≤ j := by omega
    have hj1 : (j : Int) < 16 := by omega
    go_enter Try.func33, Try.ntmps33
    go_wp2_with (go_at_call 37; refine (C.out).mono ?_; rintro e w' ⟨rfl, hw⟩; have hw := hw.symm; subst hw)
    go_loopw [5] (fun i wr => ∃ m : Nat, m ≤ len ∧ i = .int .i64 m ∧ ∃ L', LParts wr b (grow O w wr) (e.withP (e.p.giveAll (r.pages.take m))) L' bp gl v ∧ Step O (grow O w wr) w wr) (fun i _ => len - (intOf i).toNat)
    case atStart => exact ⟨0, by omega, rfl, P0.out⟩
    case round =>
      clear P0 C
      obtain ⟨m, hm, rfl, L', hp, hst⟩ := hrel
      obtain ⟨c0, c1⟩ := hp.cells
      have cv := hp.at1 j hj
      rw [HV.out.1] at cv
      by_cases hlt : m < len
      · have hrow := hp.rows j hj
        rw [HV.out.1, show (e.withP (e.p.giveAll (r.pages.take m))).pagesAt j = r.pages from HV.out.2] at hrow
        obtain ⟨ga, rfl, -, -, -, -⟩ := hrow.head (by have := HL.out; omega)
        have cm := hrow.cell m (by have := HL.out; omega)
        have hts := ltake_succ r.pages m (by have := HL.out; omega)
        obtain ⟨q, hq⟩ : ∃ q, r.pages.getD m 0 = q := ⟨_, rfl⟩
        rw [hq] at cm hts
        have G : Hid (∀ n, Calls Try.prog 19 #[.pointer (some ⟨bp, 0, none⟩), .int .i64 q] (wr.drewN n) fun r' w' => (∃ t, r' = .returned (.bool t)) ∧ ∃ L'', LParts w' b (grow O w w') (e.withP (e.p.giveAll (r.pages.take (m + 1)))) L'' bp gl v ∧ Step O (grow O w w') w w') := by
          intro n
          refine (pgive_any (wr.drewN n) bp (fun x => L' x = 2) _ q hp.pool).mono ?_
          rintro r' w' ⟨rfl, k1, k2⟩
          refine ⟨⟨_, rfl⟩, relab L' 2 (wr.drewN n) w', ?_⟩
          obtain ⟨q1, q2⟩ := (hp.drewN n).stepPool k1 k2
          have q2' : Step (grow O w (wr.drewN n)) (grow (grow O w (wr.drewN n)) (wr.drewN n) w') (wr.drewN n) w' := q2
          have hst' : Step O (grow O w (wr.drewN n)) w (wr.drewN n) := hst.drewN n
          refine ⟨?_, hst'.trans_grow q2'⟩
          rw [hts, St.giveAll_snoc]
          exact q1.mono (fun x hx _ => grow_trans hst.size x hx)
        have hm0 : (0 : Int) ≤ m := by omega
        have hm1 : (m : Int) < len := by omega
        clear hp hrow hst hq hts
        go_upto_region 6 with fail
        go_region_with (go_at_call 19; refine (G.out 1).mono ?_; rintro e' w5 ⟨⟨t, rfl⟩, hw5⟩)
        all_goals
          have W5 : Hid (∃ L'', LParts w5 b (grow O w w5) (e.withP (e.p.giveAll (r.pages.take (m + 1)))) L'' bp gl v ∧ Step O (grow O w w5) w w5) := hw5
          clear hw5
          go_wp2
          go_roundw
          case rel => exact ⟨m + 1, by omega, by go_num, W5.out⟩
          case measure => simp [intOf]; omega
      · have hml : m = len := by omega
        have htk : r.pages.take m = r.pages := by rw [hml, ← HL.out]; simp
        rw [htk] at hp
        obtain ⟨q1, q2⟩ := hp.setWhole j hj none (Or.inl rfl)
        have D : Hid (LandMem (((wr.setCell ⟨gl, j * 3, none⟩ (.bool false)).setCell ⟨gl, j * 3 + 1, none⟩ (.slice none 0 0)).setCell ⟨gl, j * 3 + 2, none⟩ (.int .i64 0)) b bp gl (grow O w wr) ((e.set j none).withP (e.p.giveAll r.pages)) ∧ Step (grow O w wr) (grow O w wr) wr (((wr.setCell ⟨gl, j * 3, none⟩ (.bool false)).setCell ⟨gl, j * 3 + 1, none⟩ (.slice none 0 0)).setCell ⟨gl, j * 3 + 2, none⟩ (.int .i64 0))) := ⟨⟨_, _, q1⟩, q2⟩
        have S : Hid (Step O (grow O w wr) w wr) := hst
        have cj0 := hp.at0 j hj
        have cj2 := hp.at2 j hj
        have f0 := hp.lands.frozen (j * 3)
        have f1 := hp.lands.frozen (j * 3 + 1)
        have f2 := hp.lands.frozen (j * 3 + 2)
        have hm1 : ¬ (m : Int) < len := by omega
        clear q1 q2 hst hp hml htk
        go_wp2
        go_ret
        rw [E.out]
        have eg : grow O w (((wr.setCell ⟨gl, j * 3, none⟩ (.bool false)).setCell ⟨gl, j * 3 + 1, none⟩ (.slice none 0 0)).setCell ⟨gl, j * 3 + 2, none⟩ (.int .i64 0)) = grow O w wr := by unfold grow; simp
        rw [eg]
        exact ⟨rfl, D.out.1, S.out.trans D.out.2⟩

/-- What a Get of the document's leaves, step by step. -/
theorem LParts.take {w : World} {b bp gl : Nat} {O : Nat → Prop} {e : Est} {L : Nat → Nat} {v : Nat → Value} (h : LParts w b O e L bp gl v) :
    Calls Try.prog 17 #[.pointer (some ⟨bp, 0, none⟩)] w fun r w' => r = .returned (.int .i64 e.p.nextK) ∧ LParts w' b (grow O w w') (e.withP e.p.take) (relab L 2 w w') bp gl v ∧ Step O (grow O w w') w w' := by
  refine (ptake_any w bp (fun x => L x = 2) _ h.pool).mono ?_
  rintro r w' ⟨rfl, k1, k2⟩
  obtain ⟨q1, q2⟩ := h.stepPool k1 k2
  exact ⟨rfl, q1, q2⟩

theorem lastD_at (l : List Int) (h : l ≠ []) : l.getD (l.length - 1) 0 = l.getLastD 0 := by
  rcases List.eq_nil_or_concat l with h' | ⟨ys, k, h'⟩
  · exact absurd h' h
  · rw [h']; simp [List.getD]
theorem lastD_mem (l : List Int) (h : l ≠ []) : l.getLastD 0 ∈ l := by
  rcases List.eq_nil_or_concat l with h' | ⟨ys, k, h'⟩
  · exact absurd h' h
  · rw [h']; simp

set_option maxHeartbeats 1600000 in
theorem lget_none (w : World) (b bp gl : Nat) (O : Nat → Prop) (e : Est) (k n : Int) (h : LandAt w b bp gl O e) (hh : e.has k = false) :
    Calls Try.prog 35 #[.pointer (some ⟨b, 0, none⟩), .int .i64 k, .int .i64 n] w fun r w' => r = .returned (.tuple #[.int .i64 (e.getAt k n), .int .i64 (e.getCode k n)]) ∧ LandMem w' b bp gl (grow O w w') (e.got k n) ∧ Step O (grow O w w') w w' := by
  have C : Hid (Calls Try.prog 37 #[.pointer (some ⟨b, 0, none⟩), .int .i64 k] w fun r w' => r = .returned (.bool (e.has k)) ∧ w' = w) := lhas_any w b bp gl O e k h.1
  have HH : Hid (LandMem w b bp gl O e) := h.1
  have E : Hid (e.getCode k n = 15 ∧ e.getAt k n = 0 ∧ e.got k n = e) := Est.get_none hh
  rw [hh] at C
  clear h hh
  go_enter Try.func35, Try.ntmps35
  go_wp2_with (go_at_call 37; refine (C.out).mono ?_; rintro e w' ⟨rfl, rfl⟩)
  go_ret2
  rw [E.out.1, E.out.2.1, E.out.2.2]
  exact ⟨rfl, HH.out.refl_grow, Step.refl_grow O _⟩

set_option maxHeartbeats 1600000 in
theorem lget_range (w : World) (b bp gl : Nat) (O : Nat → Prop) (e : Est) (k n : Int) (h : LandAt w b bp gl O e) (hh : e.has k = true) (hn : n < 1 ∨ 16 < n) :
    Calls Try.prog 35 #[.pointer (some ⟨b, 0, none⟩), .int .i64 k, .int .i64 n] w fun r w' => r = .returned (.tuple #[.int .i64 (e.getAt k n), .int .i64 (e.getCode k n)]) ∧ LandMem w' b bp gl (grow O w w') (e.got k n) ∧ Step O (grow O w w') w w' := by
  have C : Hid (Calls Try.prog 37 #[.pointer (some ⟨b, 0, none⟩), .int .i64 k] w fun r w' => r = .returned (.bool (e.has k)) ∧ w' = w) := lhas_any w b bp gl O e k h.1
  have HH : Hid (LandMem w b bp gl O e) := h.1
  have E : Hid (e.getCode k n = 1 ∧ e.getAt k n = 0 ∧ e.got k n = e) := Est.get_range hh hn
  rw [hh] at C
  clear h hh
  by_cases hn1 : n < 1
  · clear hn
    go_enter Try.func35, Try.ntmps35
    go_wp2_with (go_at_call 37; refine (C.out).mono ?_; rintro e w' ⟨rfl, rfl⟩)
    go_ret2
    rw [E.out.1, E.out.2.1, E.out.2.2]
    exact ⟨rfl, HH.out.refl_grow, Step.refl_grow O _⟩
  · have hn2 : 16 < n := by omega
    clear hn
    go_enter Try.func35, Try.ntmps35
    go_wp2_with (go_at_call 37; refine (C.out).mono ?_; rintro e w' ⟨rfl, rfl⟩)
    go_ret2
    rw [E.out.1, E.out.2.1, E.out.2.2]
    exact ⟨rfl, HH.out.refl_grow, Step.refl_grow O _⟩

set_option maxHeartbeats 1600000 in
theorem lget_room (w : World) (b bp gl : Nat) (O : Nat → Prop) (e : Est) (j : Nat) (r : Reg) (n : Int) (h : LandAt w b bp gl O e) (hj : j < 16) (hr : e.reg j = some r) (hn : ¬ (n < 1 ∨ 16 < n)) (hm : r.more n = false) :
    Calls Try.prog 35 #[.pointer (some ⟨b, 0, none⟩), .int .i64 j, .int .i64 n] w fun r w' => r = .returned (.tuple #[.int .i64 (e.getAt j n), .int .i64 (e.getCode j n)]) ∧ LandMem w' b bp gl (grow O w w') (e.got j n) ∧ Step O (grow O w w') w w' := by
  have C : Hid (Calls Try.prog 37 #[.pointer (some ⟨b, 0, none⟩), .int .i64 j] w fun r w' => r = .returned (.bool (e.has j)) ∧ w' = w) := lhas_any w b bp gl O e j h.1
  have E : Hid (e.getCode j n = 0 ∧ e.getAt j n = 16 * r.pages.getLastD 0 + r.used ∧ e.got j n = e.set j (some ⟨r.pages, r.used + n⟩)) := Est.get_room hj hr hn hm
  rw [Est.has_of hj hr] at C
  obtain ⟨hne, hle⟩ := Reg.room hm (by omega)
  have hlen := h.2.lenR hr
  have hus := h.2.used j r hr
  have hpos : 0 < r.pages.length := List.length_pos_iff.2 hne
  have hlow := h.2.low (k := j) (x := r.pages.getLastD 0) (by rw [Est.at_some hr]; exact lastD_mem _ hne)
  have h64 := h.2.ok.most
  obtain ⟨⟨L, v, hp⟩, hok⟩ := h
  obtain ⟨c0, c1⟩ := hp.cells
  have hrow := hp.rows j hj
  rw [Est.at_some hr] at hrow
  have hvf := hrow.form
  obtain ⟨a, cap, hva, -, -⟩ := hvf
  rw [hva] at hrow
  obtain ⟨ga, rfl, -, -, -, -⟩ := hrow.head hpos
  have cl := hrow.cell (r.pages.length - 1) (by omega)
  rw [lastD_at _ hne] at cl
  have k1 := hp.at1 j hj
  have k2 := hp.at2 j hj
  rw [hva] at k1
  rw [show e.usedAt j = r.used by simp [Est.usedAt, hr]] at k2
  have f2 := hp.lands.frozen (j * 3 + 2)
  have Q := hp.setUsed j hj hr (r.used + n)
  have D : Hid (LandMem (w.setCell ⟨gl, j * 3 + 2, none⟩ (.int .i64 (r.used + n))) b bp gl O (e.set j (some ⟨r.pages, r.used + n⟩)) ∧ O gl) := ⟨⟨_, _, Q.1⟩, (hp.all gl (by rw [hp.ownG]; decide)).1⟩
  obtain ⟨cg, hcg, -, -⟩ := id hp.lands
  have hgg : ga ≠ gl := by
    intro e'
    obtain ⟨cc, hcc⟩ := hrow.block (g := ga) rfl
    exact absurd e' (blockNe hcc hcg (by decide))
  have hgb : b ≠ gl := blockNe hp.blk hcg (by decide)
  obtain ⟨m, hm'⟩ : ∃ m, r.pages.length = m + 1 := ⟨r.pages.length - 1, by omega⟩
  rw [hm'] at cl k1 hlen
  rw [show m + 1 - 1 = m by omega] at cl
  obtain ⟨q, hq⟩ : ∃ q, r.pages.getLastD 0 = q := ⟨_, rfl⟩
  obtain ⟨u, hu⟩ : ∃ u, r.used = u := ⟨_, rfl⟩
  rw [hq] at cl hlow E
  rw [hu] at k2 hus hle E D
  have hj0 : (0 : Int) ≤ j := by omega
  have hj1 : (j : Int) < 16 := by omega
  have hm0 : (0 : Int) ≤ m := by omega
  have hn1 : ¬ n < 1 := by omega
  have hn2 : ¬ 16 < n := by omega
  have hle' : decide (16 - u < n) = false := by have : ¬ (16 - u < n) := by omega
                                                simpa using this
  have hmb : ((m : Int) + 1 == 0) = false := by have : ¬ ((m : Int) + 1 = 0) := by omega
                                                simpa using this
  have cl' : (w.setCell ⟨gl, j * 3 + 2, none⟩ (.int .i64 (u + n))).cell? ⟨ga, m, none⟩ = some (.int .i64 q) := by
    rw [World.cell?_setCell_far _ _ _ _ (Ne.symm hgg)]; exact cl
  clear hp hok hr hm hn hne hpos hrow hva hq hu hm' Q hcg hle
  go_enter Try.func35, Try.ntmps35
  go_wp2_with (go_at_call 37; refine (C.out).mono ?_; rintro e' w' ⟨rfl, hw⟩; have hw := hw.symm; subst hw)
  go_quiet (fail)
  go_wp2
  go_ret2
  rw [E.out.1, E.out.2.1, E.out.2.2]
  have eg : ∀ x, grow O w ((w.setCell ⟨gl, j * 3 + 2, none⟩ (.int .i64 (u + n))).drewN nq) x ↔ grow O w w x := fun x => by unfold grow; simp
  refine ⟨?_, ?_, ?_⟩
  · show Ending.returned (Value.tuple #[.int .i64 (16 * q + (u + n) - n), .int .i64 0]) = _
    rw [show 16 * q + (u + n) - n = 16 * q + u by omega]
  · exact (D.out.1.drewN nq).mono (fun x hx hl => ⟨Or.inl hx, hl⟩)
  · have := (((Step.refl O w).setCell (p := ⟨gl, j * 3 + 2, none⟩) D.out.2 (.int .i64 (u + n))).drewN nq)
    exact ⟨this.os, this.tape, this.output, this.size, this.block, fun x hx => hx.1⟩

end Go.Proofs.Ytphindejlinleaa
