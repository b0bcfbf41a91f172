/-
  The walk through EstateRoom: it returns true, and nothing that came in has turned.
-/
import Derived.Test.YtphindejlinleabEKeep
import Derived.Test.YtphindejlinleabRoomSt
import Derived.Test.YtphindejlinleabArgs
import Derived.Deep.QuietTactic
import Derived.BigQuiet
import Derived.Deep.DeepCutAuto
import Derived.Deep.CutBlock
namespace Go.Proofs.Ytphindejlinleab
open Go.ChangeShapes Go.WideShapes Go.ChangeAt Go.RowKit
set_option linter.unusedVariables false

/-- The estate, and the law's two arrays; the step at hand. -/
structure RoomX (w1 w : World) (b bp H U X : Nat) (e : Est) (hf uf : Nat → Int) (x y z : Int) : Prop where
  keep : EKeep w1 w b bp (fun q => q = H ∨ q = U ∨ q = X) e
  rowH : w.rowIs H 29 16 (fun i => .int .i64 (hf i))
  rowU : w.rowIs U 29 16 (fun i => .int .i64 (uf i))
  step : w.heap[X]? = some (.cells #[.int .i64 x, .int .i64 y, .int .i64 z] 31 (0, 0))
  ne : H ≠ U
structure RoomL (w1 w : World) (b bp H U : Nat) (e : Est) (n : Nat) : Prop where
  keep : EKeep w1 w b bp (fun q => q = H ∨ q = U) e
  rowH : w.rowIs H 29 16 (fun i => .int .i64 (e.lenAt i))
  rowU : w.rowIs U 29 16 (fun i => .int .i64 (e.usedAt i))
  ne : H ≠ U
  pages : e.p.pages = n

section
variable {w1 w w' : World} {b bp H U X n : Nat} {e e' : Est} {hf uf : Nat → Int} {x y z : Int}

theorem RoomL.enter (h : RoomL w1 w b bp H U e n) (x y z : Int) : RoomX w1 (w.alloc (.cells #[.int .i64 x, .int .i64 y, .int .i64 z] 31)) b bp H U w.heap.size e e.lenAt e.usedAt x y z :=
  ⟨h.keep.alloc _ (fun q hq => by rcases hq with h' | h' | h' <;> simp [h']), h.rowH.alloc _, h.rowU.alloc _, blockNew w _ _, h.ne⟩
theorem RoomX.leave (h : RoomX w1 w b bp H U X e e.lenAt e.usedAt x y z) (hn : e.p.pages = n) : RoomL w1 w b bp H U e n :=
  ⟨h.keep.sub (fun q hq => by rcases hq with h' | h' <;> simp [h']), h.rowH, h.rowU, h.ne, hn⟩
theorem RoomL.drew (h : RoomL w1 w b bp H U e n) : RoomL w1 w.drew b bp H U e n := ⟨h.keep.drew, h.rowH, h.rowU, h.ne, h.pages⟩
theorem RoomX.drewN (h : RoomX w1 w b bp H U X e hf uf x y z) (m : Nat) : RoomX w1 (w.drewN m) b bp H U X e hf uf x y z := ⟨h.keep.drewN m, h.rowH, h.rowU, h.step, h.ne⟩
theorem RoomX.drew (h : RoomX w1 w b bp H U X e hf uf x y z) : RoomX w1 w.drew b bp H U X e hf uf x y z := h.drewN 1
theorem RoomX.next (h : RoomX w1 w b bp H U X e hf uf x y z) (k : EKept w1 w w' b bp (fun q => q = H ∨ q = U ∨ q = X) e') : RoomX w1 w' b bp H U X e' hf uf x y z :=
  ⟨k.1, h.rowH.of_block (k.2 H (by simp)), h.rowU.of_block (k.2 U (by simp)), (k.2 X (by simp)).trans h.step, h.ne⟩
theorem RoomX.xne (h : RoomX w1 w b bp H U X e hf uf x y z) : X ≠ H ∧ X ≠ U := by
  obtain ⟨c, hc, _, _⟩ := id h.rowH
  obtain ⟨d, hd, _, _⟩ := id h.rowU
  exact ⟨blockNe h.step hc (by decide), blockNe h.step hd (by decide)⟩
theorem RoomX.setH (h : RoomX w1 w b bp H U X e hf uf x y z) (i : Nat) (v : Int) : RoomX w1 (w.setCell ⟨H, i, none⟩ (.int .i64 v)) b bp H U X e (fun j => if j = i then v else hf j) uf x y z := by
  refine ⟨h.keep.setCell _ _ (by simp), (h.rowH.set i _).congr (fun j hj => by by_cases e : j = i <;> simp [e]), h.rowU.setOther (fun e => h.ne e.symm) _, ?_, h.ne⟩
  rw [Below.heap_setCell _ _ _ _ h.xne.1]; exact h.step
theorem RoomX.setU (h : RoomX w1 w b bp H U X e hf uf x y z) (i : Nat) (v : Int) : RoomX w1 (w.setCell ⟨U, i, none⟩ (.int .i64 v)) b bp H U X e hf (fun j => if j = i then v else uf j) x y z := by
  refine ⟨h.keep.setCell _ _ (by simp), h.rowH.setOther (fun e => h.ne e) _, (h.rowU.set i _).congr (fun j hj => by by_cases e : j = i <;> simp [e]), ?_, h.ne⟩
  rw [Below.heap_setCell _ _ _ _ h.xne.2]; exact h.step

theorem open_rx (h : RoomX w1 w b bp H U X e hf uf x y z) : Calls Try.prog 6 #[.pointer (some ⟨b, 0, none⟩)] w fun r w' => r = .returned (.int .i64 e.openK) ∧ RoomX w1 w' b bp H U X e.opened hf uf x y z := by
  refine (open_keep h.keep).mono ?_
  rintro r w' ⟨rfl, k⟩
  exact ⟨rfl, h.next k⟩
theorem shut_rx (k : Int) (h : RoomX w1 w b bp H U X e hf uf x y z) : Calls Try.prog 7 #[.pointer (some ⟨b, 0, none⟩), .int .i64 k] w fun r w' => r = .returned (.bool (e.has k)) ∧ RoomX w1 w' b bp H U X (e.shut k) hf uf x y z := by
  refine (shut_keep k h.keep).mono ?_
  rintro r w' ⟨rfl, k⟩
  exact ⟨rfl, h.next k⟩
theorem get_rx (k m : Int) (h : RoomX w1 w b bp H U X e hf uf x y z) : Calls Try.prog 9 #[.pointer (some ⟨b, 0, none⟩), .int .i64 k, .int .i64 m] w fun r w' => r = .returned (.tuple #[.int .i64 (e.getAt k m), .int .i64 (e.getCode k m)]) ∧ RoomX w1 w' b bp H U X (e.got k m) hf uf x y z := by
  refine (get_keep k m h.keep).mono ?_
  rintro r w' ⟨rfl, k⟩
  exact ⟨rfl, h.next k⟩
theorem has_rx (k : Int) (h : RoomX w1 w b bp H U X e hf uf x y z) : Calls Try.prog 8 #[.pointer (some ⟨b, 0, none⟩), .int .i64 k] w fun r w' => r = .returned (.bool (e.has k)) ∧ w' = w := has_keep k h.keep
end

theorem room_great (w : World) (pages : Int) (a : Option Addr) (len cap : Nat) (hg : 300 < (len : Int)) :
    Calls Try.prog 3 #[.int .i64 pages, .slice a len cap] w fun e w' => e = .returned (.bool true) ∧ Below w.heap.size w w' := by
  go_enter Try.func3, Try.ntmps3
  go_wp2_with fail
  refine (ebegun_any _).mono ?_
  rintro e w1 ⟨rfl, b1⟩
  go_wp2
  go_ret
  exact ⟨rfl, b1⟩

theorem room_no (w : World) (pages : Int) (a : Option Addr) (len cap : Nat) (hg : ¬ 300 < (len : Int)) (hp : pages < 0 ∨ 64 < pages) :
    Calls Try.prog 3 #[.int .i64 pages, .slice a len cap] w fun e w' => e = .returned (.bool true) ∧ Below w.heap.size w w' := by
  have C : Hid (∀ w, Calls Try.prog 5 #[.int .i64 pages] w fun e w' => e = .returned (.tuple #[.pointer none, .agg #[.int .i64 1, .int .i64 (-1)]]) ∧ Below w.heap.size w w') := fun w => enew_no w pages hp
  clear hp
  go_enter Try.func3, Try.ntmps3
  go_wp2_with fail
  refine (ebegun_any _).mono ?_
  rintro e w1 ⟨rfl, b1⟩
  go_wp2_with fail
  refine (C.out _).mono ?_
  rintro e w2 ⟨rfl, b2⟩
  have B : Hid (Below w.heap.size w w2) := b1.trans (b2.mono b1.size)
  have hz := b1.size
  have hz2 := b2.size
  clear b1 b2
  go_wp2
  go_ret
  exact ⟨rfl, B.out.alloc (by omega) _⟩

def zeros16 : Array Value := #[.int .i64 0, .int .i64 0, .int .i64 0, .int .i64 0, .int .i64 0, .int .i64 0, .int .i64 0, .int .i64 0, .int .i64 0, .int .i64 0, .int .i64 0, .int .i64 0, .int .i64 0, .int .i64 0, .int .i64 0, .int .i64 0]
theorem zeros16_at : ∀ i, i < 16 → zeros16[i]? = some (.int .i64 0) := by
  intro i hi
  have : i = 0 ∨ i = 1 ∨ i = 2 ∨ i = 3 ∨ i = 4 ∨ i = 5 ∨ i = 6 ∨ i = 7 ∨ i = 8 ∨ i = 9 ∨ i = 10 ∨ i = 11 ∨ i = 12 ∨ i = 13 ∨ i = 14 ∨ i = 15 := by omega
  rcases this with h | h | h | h | h | h | h | h | h | h | h | h | h | h | h | h <;> subst h <;> rfl
theorem room_start {w1 w2 : World} {b bp n : Nat} (h : EKeep w1 w2 b bp (fun _ => False) (Est.new n)) (o : Obj) :
    RoomL w1 (((w2.alloc o).alloc (.cells zeros16 29)).alloc (.cells zeros16 29)) b bp (w2.heap.size + 1) (w2.heap.size + 1 + 1) (Est.new n) n := by
  have z : ∀ w : World, (w.alloc (.cells zeros16 29)).rowIs w.heap.size 29 16 (fun _ => .int .i64 0) := fun w => ⟨zeros16, blockNew w _ _, rfl, zeros16_at⟩
  have k1 := h.alloc (K' := fun _ => False) o (fun _ h => h.elim)
  have k2 := k1.alloc (K' := fun q => q = w2.heap.size + 1) (.cells zeros16 29) (fun x hx => Or.inr (by simpa using hx))
  have k3 := k2.alloc (K' := fun q => q = w2.heap.size + 1 ∨ q = w2.heap.size + 1 + 1) (.cells zeros16 29) (fun x hx => by simpa using hx)
  have z1 := (z (w2.alloc o)).alloc (.cells zeros16 29)
  have z2 := z ((w2.alloc o).alloc (.cells zeros16 29))
  simp only [World.size_alloc] at z1 z2
  exact ⟨k3, z1.congr (fun i _ => rfl), z2.congr (fun i _ => rfl), by omega, rfl⟩

set_option maxHeartbeats 4000000 in
set_option maxRecDepth 100000 in
theorem room_yes (w : World) (n : Nat) (hn : n ≤ 64) (a : Option Addr) (len cap : Nat) (hg : ¬ 300 < (len : Int)) (F : Nat → Nat → Int) (h : Lies w a len 3 F) :
    Calls Try.prog 3 #[.int .i64 n, .slice a len cap] w fun e w' => e = .returned (.bool true) ∧ Below w.heap.size w w' := by
  have hL : Hid (Lies w a len 3 F) := h
  clear h
  go_enter Try.func3, Try.ntmps3
  go_wp2_with fail
  refine (ebegun_any _).mono ?_
  rintro e w1 ⟨rfl, b1⟩
  go_wp2_with fail
  refine (enew_yes _ n hn).mono ?_
  rintro e w2 ⟨b, bp, rfl, p1, b2⟩
  have K0 : Hid (EKeep w1 w2 b bp (fun _ => False) (Est.new n)) := EKeep.of_new p1 b2
  clear p1 b2
  go_wp2_with fail
  have R0 : Hid (RoomL w1 (((w2.alloc (.cells #[.int .i64 0, .int .i64 0] 26)).alloc (.cells zeros16 29)).alloc (.cells zeros16 29)) b bp (w2.heap.size + 1) (w2.heap.size + 1 + 1) (Est.new n) n) := room_start K0.out _
  unfold zeros16 at R0
  generalize ((w2.alloc (.cells #[.int .i64 0, .int .i64 0] 26)).alloc (.cells _ 29)).alloc (.cells _ 29) = w3 at R0 ⊢
  generalize w2.heap.size + 1 + 1 = U at R0 ⊢
  generalize w2.heap.size + 1 = H at R0 ⊢
  clear K0
  go_loopw [9] (fun i wr => ∃ k : Nat, k ≤ len ∧ i = .int .i64 k ∧ ∃ e, RoomL w1 wr b bp H U e n) (fun i _ => len - (intOf i).toNat)
  case atStart => exact ⟨0, Nat.zero_le _, rfl, _, R0.out⟩
  case round =>
    clear R0
    obtain ⟨k, hk, rfl, e, hR⟩ := hrel
    have hbl := b1.trans (hR.keep.done.mono b1.size)
    by_cases hlt : k < len
    · obtain ⟨g, o, rfl, hd⟩ := hL.out k hlt
      have dd : ∀ j, j < 3 → wr.cell? ⟨g, o + k * 3 + j, none⟩ = some (.int .i64 (F k j)) := fun j hj => (hbl.cell (p := ⟨g, o + k * 3 + j, none⟩) (World.block_lt_of_cell? w ⟨g, o + k * 3 + j, none⟩ (hd j hj))).trans (hd j hj)
      have d0 := dd 0 (by omega)
      have d1 := dd 1 (by omega)
      have d2 := dd 2 (by omega)
      rw [Nat.add_zero] at d0
      clear dd hd hbl
      generalize F k 0 = x at d0
      generalize F k 1 = y at d1
      generalize F k 2 = z at d2
      have RR : Hid (RoomX w1 (wr.alloc (.cells #[.int .i64 x, .int .i64 y, .int .i64 z] 31)) b bp H U wr.heap.size e e.lenAt e.usedAt x y z) := hR.enter x y z
      have hpg : Hid (e.p.pages = n) := hR.pages
      have hok : Hid e.Ok := hR.keep.ok
      clear hR
      have hk0 : (0 : Int) ≤ k := by omega
      have hk1 : (k : Int) < len := by omega
      go_upto_region 13 with fail
      generalize wr.alloc (.cells #[.int .i64 x, .int .i64 y, .int .i64 z] 31) = w4 at RR ⊢
      generalize wr.heap.size = X at RR ⊢
      clear d0 d1 d2
      have e0 : w4.cell? ⟨X, 0, none⟩ = some (.int .i64 x) := cellOf RR.out.step 0 _ rfl
      have e1 : w4.cell? ⟨X, 1, none⟩ = some (.int .i64 y) := cellOf RR.out.step 1 _ rfl
      have e2 : w4.cell? ⟨X, 2, none⟩ = some (.int .i64 z) := cellOf RR.out.step 2 _ rfl
      by_cases c0 : x = 0
      · have c0' : (x == 0) = true := by simpa using c0
        clear c0
        go_wp2_with fail
        refine (open_rx RR.out).mono ?_
        rintro r w5 ⟨rfl, q⟩
        rw [← (Est.len_opened hok.out).1, ← (Est.len_opened hok.out).2] at q
        have Q : Hid (∃ e, RoomL w1 w5 b bp H U e n) := ⟨_, q.leave (by rw [Est.p_opened]; exact hpg.out)⟩
        clear q RR
        go_wp2
        go_roundw
        case rel => exact ⟨k + 1, by omega, by go_num, Q.out⟩
        case measure => simp [intOf]; omega
      have c0' : (x == 0) = false := by simpa using c0
      clear c0
      by_cases c1 : x = 1
      · have c1' : (x == 1) = true := by simpa using c1
        clear c1
        cases hh : e.has y with
        | false =>
          go_wp2_with fail
          refine (shut_rx y RR.out).mono ?_
          rw [hh]
          rintro r w5 ⟨rfl, q⟩
          rw [Est.shut_no hh] at q
          have Q : Hid (∃ e, RoomL w1 w5 b bp H U e n) := ⟨_, q.leave hpg.out⟩
          clear q RR
          go_wp2
          go_roundw
          case rel => exact ⟨k + 1, by omega, by go_num, Q.out⟩
          case measure => simp [intOf]; omega
        | true =>
          obtain ⟨j, r, rfl, hj, hr⟩ := Est.has_true hh
          go_wp2_with fail
          refine (shut_rx j RR.out).mono ?_
          rw [hh]
          rintro r' w5 ⟨rfl, q⟩
          have S := Est.len_shut hj hr
          have hj0 : (0 : Int) ≤ j := by omega
          have hj1 : (j : Int) < 16 := by omega
          have x1 : w5.cell? ⟨X, 1, none⟩ = some (.int .i64 j) := cellOf q.step 1 _ rfl
          have h1 : w5.cell? ⟨H, j, none⟩ = some (.int .i64 (e.lenAt j)) := q.rowH.cell hj
          have h2 : w5.cell? ⟨U, j, none⟩ = some (.int .i64 (e.usedAt j)) := q.rowU.cell hj
          have f1 := q.rowH.frozen j
          have f2 := q.rowU.frozen j
          have hne := q.xne
          have hne1 := hne.1
          have hne2 := hne.2
          have hne3 := q.ne
          have Q0 := (q.setH j 0).setU j 0
          rw [← S.1, ← S.2] at Q0
          have Q1 : Hid (RoomL w1 ((w5.setCell ⟨H, j, none⟩ (.int .i64 0)).setCell ⟨U, j, none⟩ (.int .i64 0)) b bp H U (e.shut j) n) := Q0.leave (by rw [Est.pages_shut]; exact hpg.out)
          clear q RR Q0 S hne hh hr e0 e1 e2
          go_upto_region 18 with fail
          go_region
          have Q : Hid (∃ e, RoomL w1 ((w5.setCell ⟨H, j, none⟩ (.int .i64 0)).setCell ⟨U, j, none⟩ (.int .i64 0)).drew b bp H U e n) := ⟨_, Q1.out.drew⟩
          generalize ((w5.setCell ⟨H, j, none⟩ (.int .i64 0)).setCell ⟨U, j, none⟩ (.int .i64 0)).drew = w7 at Q ⊢
          clear Q1 h1 h2 f1 f2 x1
          go_wp2
          go_roundw
          case rel => exact ⟨k + 1, by omega, by go_num, Q.out⟩
          case measure => simp [intOf]; omega
      have c1' : (x == 1) = false := by simpa using c1
      clear c1
      by_cases c2 : x = 2
      · have c2' : (x == 2) = true := by simpa using c2
        clear c2
        cases hh : e.has y with
        | false =>
          go_wp2_with fail
          refine (has_rx y RR.out).mono ?_
          rw [hh]
          rintro r w5 ⟨rfl, hw⟩
          have hw := hw.symm
          subst hw
          have Q : Hid (∃ e, RoomL w1 w4 b bp H U e n) := ⟨_, RR.out.leave hpg.out⟩
          clear RR
          go_wp2
          go_roundw
          case rel => exact ⟨k + 1, by omega, by go_num, Q.out⟩
          case measure => simp [intOf]; omega
        | true =>
          by_cases hz1 : z < 1
          · go_wp2_with fail
            refine (has_rx y RR.out).mono ?_
            rw [hh]
            rintro r w5 ⟨rfl, hw⟩
            have hw := hw.symm
            subst hw
            have Q : Hid (∃ e, RoomL w1 w4 b bp H U e n) := ⟨_, RR.out.leave hpg.out⟩
            clear RR
            go_wp2
            go_roundw
            case rel => exact ⟨k + 1, by omega, by go_num, Q.out⟩
            case measure => simp [intOf]; omega
          by_cases hz2 : 16 < z
          · go_wp2_with fail
            refine (has_rx y RR.out).mono ?_
            rw [hh]
            rintro r w5 ⟨rfl, hw⟩
            have hw := hw.symm
            subst hw
            have Q : Hid (∃ e, RoomL w1 w4 b bp H U e n) := ⟨_, RR.out.leave hpg.out⟩
            clear RR
            go_wp2
            go_roundw
            case rel => exact ⟨k + 1, by omega, by go_num, Q.out⟩
            case measure => simp [intOf]; omega
          obtain ⟨j, r, rfl, hj, hr⟩ := Est.has_true hh
          have hj0 : (0 : Int) ≤ j := by omega
          have hj1 : (j : Int) < 16 := by omega
          have HC : Hid (∀ q, q < 16 → w4.cell? ⟨H, q, none⟩ = some (.int .i64 (e.lenAt q))) := fun q hq => RR.out.rowH.cell hq
          have HR : Hid (e.reg j = some r) := hr
          go_wp2_with fail
          refine (has_rx j RR.out).mono ?_
          rw [hh]
          rintro r' w5 ⟨rfl, hw⟩
          have hw := hw.symm
          subst hw
          clear hr hh
          go_wp2_with fail
          generalize wr = wq at *
          go_loop [11, 12] (fun s i => ∃ q : Nat, q ≤ 16 ∧ i = .int .i64 q ∧ s = .int .i64 (e.allTo q).length) (fun _ i => 16 - (intOf i).toNat)
          case atStart => exact ⟨0, by omega, rfl, rfl⟩
          case round =>
            obtain ⟨q, hq, rfl, rfl⟩ := hrel
            have hq64 := hok.out.lenAll q
            by_cases hql : q < 16
            · have cq := HC.out q hql
              have hl := hok.out.lenAt_le q
              have E : Hid (((e.allTo (q + 1)).length : Int) = (e.allTo q).length + e.lenAt q) := e.allTo_succ q
              generalize e.lenAt q = lq at cq hl E
              have hq0 : (0 : Int) ≤ q := by omega
              have hq1 : (q : Int) < 16 := by omega
              go_wp2
              go_round
              case rel => exact ⟨q + 1, by omega, by go_num, by rw [E.out]⟩
              case measure => simp [intOf]; omega
            · have hq16 : q = 16 := by omega
              subst hq16
              have HA : Hid (((e.allTo 16).length : Int) = e.all.length) := rfl
              rw [HA.out]
              generalize hal : e.all.length = al at *
              have HAL : Hid (e.all.length = al) := hal
              clear hal HA
              have cH := HC.out j hj
              have cU := RR.out.rowU.cell hj
              have hl := hok.out.lenAt_le j
              have hu := hok.out.usedAt_le j
              have HM : Hid (r.more z = (e.lenAt j == 0 || decide (16 < e.usedAt j + z))) := Est.more_at HR.out (by omega)
              clear HC
              go_upto_region 26 with fail
              go_cut [13] (fun c wx => c = .bool (r.more z) ∧ ∃ m, wx = w4.drewN m)
              case first =>
                generalize e.lenAt j = lj at *
                generalize e.usedAt j = uj at *
                by_cases hl0 : lj = 0
                · have hl0' : (lj == 0) = true := by simpa using hl0
                  clear hl0
                  go_quiet (fail)
                  go_wp2
                  go_meet
                  exact ⟨by rw [HM.out, hl0']; rfl, _, rfl⟩
                · have hl0' : (lj == 0) = false := by simpa using hl0
                  clear hl0
                  go_quiet (fail)
                  go_wp2
                  go_meet
                  exact ⟨by rw [HM.out, hl0']; rfl, _, rfl⟩
              case rest =>
                obtain ⟨rfl, m, rfl⟩ := hcut
                have R5 : Hid (RoomX w1 (w4.drewN m) b bp H U X e e.lenAt e.usedAt x j z) := RR.out.drewN m
                generalize w4.drewN m = w5 at R5 ⊢
                clear RR e0 e1 e2 cH cU HM
                have e1 : w5.cell? ⟨X, 1, none⟩ = some (.int .i64 j) := cellOf R5.out.step 1 _ rfl
                have e2 : w5.cell? ⟨X, 2, none⟩ = some (.int .i64 z) := cellOf R5.out.step 2 _ rfl
                have hzn : ¬ (z < 1 ∨ 16 < z) := by omega
                have hfull := hok.out.full
                rw [HAL.out, hpg.out] at hfull
                cases hm : r.more z with
                | false =>
                  have E := Est.get_room hj HR.out hzn hm
                  have hle := (Reg.room hm (by omega)).2
                  have S := Est.len_room HR.out z
                  have hur : e.usedAt j = r.used := by simp [Est.usedAt, HR.out]
                  go_wp2_with fail
                  refine (get_rx j z R5.out).mono ?_
                  rw [E.1]
                  rintro r' w6 ⟨rfl, q⟩
                  rw [E.2.2] at q
                  rw [← hur] at hle
                  have Q0 := q.setU j (e.usedAt j + z)
                  rw [← S.2] at Q0
                  have Q1 : Hid (RoomL w1 (w6.setCell ⟨U, j, none⟩ (.int .i64 (e.usedAt j + z))) b bp H U (e.set j (some ⟨r.pages, r.used + z⟩)) n) := RoomX.leave (by rw [S.1]; exact Q0) (by rw [Est.p_set]; exact hpg.out)
                  have x1 : w6.cell? ⟨X, 1, none⟩ = some (.int .i64 j) := cellOf q.step 1 _ rfl
                  have x2 : w6.cell? ⟨X, 2, none⟩ = some (.int .i64 z) := cellOf q.step 2 _ rfl
                  have h2 : w6.cell? ⟨U, j, none⟩ = some (.int .i64 (e.usedAt j)) := q.rowU.cell hj
                  have f2 := q.rowU.frozen j
                  have hne2 := q.xne.2
                  generalize e.usedAt j = uj at *
                  clear q R5 Q0 S E e1 e2 hm hfull hur hl
                  go_upto_region 34 with fail
                  go_region
                  have Q : Hid (∃ e, RoomL w1 (w6.setCell ⟨U, j, none⟩ (.int .i64 (uj + z))).drew b bp H U e n) := ⟨_, Q1.out.drew⟩
                  generalize (w6.setCell ⟨U, j, none⟩ (.int .i64 (uj + z))).drew = w7 at Q ⊢
                  clear Q1 h2 f2 x1 x2
                  go_wp2
                  go_roundw
                  case rel => exact ⟨k + 1, by omega, by go_num, Q.out⟩
                  case measure => simp [intOf]; omega
                | true =>
                  by_cases hk2 : e.p.nextK < 0
                  · have E := Est.get_full hj HR.out hzn hm hk2
                    have ha : ((al : Int) == (n : Int)) = true := by simpa using hfull.1 hk2
                    go_wp2_with fail
                    refine (get_rx j z R5.out).mono ?_
                    rw [E.1]
                    rintro r' w6 ⟨rfl, q⟩
                    rw [E.2.2] at q
                    have Q : Hid (∃ e, RoomL w1 w6 b bp H U e n) := ⟨_, q.leave hpg.out⟩
                    clear q R5 E e1 e2 hm hfull hk2
                    go_wp2
                    go_roundw
                    case rel => exact ⟨k + 1, by omega, by go_num, Q.out⟩
                    case measure => simp [intOf]; omega
                  · have E := Est.get_more hj HR.out hzn hm hk2
                    have ha : ((al : Int) == (n : Int)) = false := by
                      have : ¬ (al : Int) = n := fun h => hk2 (hfull.2 h)
                      simpa using this
                    have S := Est.len_more HR.out e.p.nextK z e.p.take
                    go_wp2_with fail
                    refine (get_rx j z R5.out).mono ?_
                    rw [E.1]
                    rintro r' w6 ⟨rfl, q⟩
                    rw [E.2.2] at q
                    have x1 : w6.cell? ⟨X, 1, none⟩ = some (.int .i64 j) := cellOf q.step 1 _ rfl
                    have h1 : w6.cell? ⟨H, j, none⟩ = some (.int .i64 (e.lenAt j)) := q.rowH.cell hj
                    have f1 := q.rowH.frozen j
                    have h2 : w6.cell? ⟨U, j, none⟩ = some (.int .i64 (e.usedAt j)) := q.rowU.cell hj
                    have f2 := q.rowU.frozen j
                    have hne1 := q.xne.1
                    have hne2 := q.xne.2
                    have hne3 := q.ne
                    have R7 := (q.setH j (e.lenAt j + 1)).setU j 0
                    have hpg2 : ((e.set j (some ⟨r.pages ++ [e.p.nextK], z⟩)).withP e.p.take).p.pages = n := by show e.p.take.pages = n; rw [St.pages_take]; exact hpg.out
                    rw [← S.1] at R7
                    have S2 : Hid (((e.set j (some ⟨r.pages ++ [e.p.nextK], z⟩)).withP e.p.take).usedAt = fun i => if i = j then z else e.usedAt i) := S.2
                    generalize (e.set j (some ⟨r.pages ++ [e.p.nextK], z⟩)).withP e.p.take = e' at *
                    have RH : Hid (RoomX w1 ((w6.setCell ⟨H, j, none⟩ (.int .i64 (e.lenAt j + 1))).setCell ⟨U, j, none⟩ (.int .i64 0)) b bp H U X e' e'.lenAt (fun i => if i = j then 0 else e.usedAt i) x j z ∧ e'.p.pages = n) := ⟨R7, hpg2⟩
                    generalize e.lenAt j = lj at *
                    clear q R5 E e1 e2 hm hfull hk2 S R7 hpg2
                    go_upto_region 34 with fail
                    generalize (w6.setCell ⟨H, j, none⟩ (.int .i64 (lj + 1))).setCell ⟨U, j, none⟩ (.int .i64 0) = w7 at RH ⊢
                    clear x1 h1 h2 f1 f2
                    obtain ⟨R7, hpg2⟩ := RH.out
                    have x1 : w7.cell? ⟨X, 1, none⟩ = some (.int .i64 j) := cellOf R7.step 1 _ rfl
                    have x2 : w7.cell? ⟨X, 2, none⟩ = some (.int .i64 z) := cellOf R7.step 2 _ rfl
                    have h2 : w7.cell? ⟨U, j, none⟩ = some (.int .i64 0) := by
                      have := R7.rowU.cell hj
                      simpa using this
                    have f2 := R7.rowU.frozen j
                    have R8 := R7.setU j z
                    have ef : (fun i => if i = j then z else if i = j then 0 else e.usedAt i) = e'.usedAt := by
                      rw [S2.out]; funext i; by_cases hi : i = j <;> simp [hi]
                    rw [ef] at R8
                    have Q1 : Hid (RoomL w1 (w7.setCell ⟨U, j, none⟩ (.int .i64 z)) b bp H U e' n) := R8.leave hpg2
                    clear R7 hpg2 RH R8 ef S2
                    go_region
                    have Q : Hid (∃ e, RoomL w1 (w7.setCell ⟨U, j, none⟩ (.int .i64 z)).drew b bp H U e n) := ⟨_, Q1.out.drew⟩
                    generalize (w7.setCell ⟨U, j, none⟩ (.int .i64 z)).drew = w8 at Q ⊢
                    clear Q1 h2 f2 x1 x2
                    go_wp2
                    go_roundw
                    case rel => exact ⟨k + 1, by omega, by go_num, Q.out⟩
                    case measure => simp [intOf]; omega
      have c2' : (x == 2) = false := by simpa using c2
      clear c2
      have Q : Hid (∃ e, RoomL w1 w4 b bp H U e n) := ⟨_, RR.out.leave hpg.out⟩
      clear RR
      go_wp2
      go_roundw
      case rel => exact ⟨k + 1, by omega, by go_num, Q.out⟩
      case measure => simp [intOf]; omega
    · have B : Hid (Below w.heap.size w wr) := hbl
      clear hbl hR
      go_wp2
      go_ret
      exact ⟨rfl, B.out⟩

end Go.Proofs.Ytphindejlinleab
