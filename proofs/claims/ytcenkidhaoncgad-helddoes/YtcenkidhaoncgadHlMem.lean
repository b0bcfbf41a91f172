/-
  Contracts of package held's functions: what they answer, and what lies in memory then; all else stays as it was.
-/
import Derived.Test.YtcenkidhaoncgadHlSt
import Derived.Test.YtcenkidhaoncgadBeside
import Derived.Deep.QuietTactic
import Derived.BigQuiet
import Derived.RegionTactic
namespace Go.Proofs.Ytcenkidhaoncgad
open Go.ChangeShapes Go.WideShapes Go.ChangeAt Go.RowKit
set_option linter.unusedVariables false

def hCell (L : List Bool) (i : Nat) : Value := if i = 16 then .int .i64 (L.length : Int) else .bool (L.getD i false)
/-- In w an object of package held lies at block b, in the state L. -/
def HeldAt (w : World) (b : Nat) (L : List Bool) : Prop := L.length ≤ 16 ∧ w.rowIs b 42 17 (hCell L)

theorem HeldAt.mark {w : World} {b : Nat} {L : List Bool} (h : HeldAt w b L) {k : Nat} (hk : k < 16) : w.cell? ⟨b, k, none⟩ = some (.bool (L.getD k false)) := by
  have := h.2.cell (i := k) (by omega)
  rwa [hCell, if_neg (by omega)] at this
theorem HeldAt.count {w : World} {b : Nat} {L : List Bool} (h : HeldAt w b L) : w.cell? ⟨b, 16, none⟩ = some (.int .i64 (L.length : Int)) := by
  have := h.2.cell (i := 16) (by omega)
  rwa [hCell, if_pos rfl] at this
theorem HeldAt.keep {w w' : World} {b : Nat} {L : List Bool} (h : HeldAt w b L) (e : w'.heap[b]? = w.heap[b]?) : HeldAt w' b L := ⟨h.1, h.2.of_block e⟩
theorem HeldAt.below {w w' : World} {b : Nat} {L : List Bool} (h : HeldAt w b L) (k : Below w.heap.size w w') : HeldAt w' b L := h.keep (k.block b h.2.lt)
theorem HeldAt.step {w w' : World} {b : Nat} {L : List Bool} {O O' : Nat → Prop} (h : HeldAt w b L) (k : Step O O' w w') (hn : ¬ O b) : HeldAt w' b L := h.keep (k.block b h.2.lt hn)
theorem HeldAt.lt {w : World} {b : Nat} {L : List Bool} (h : HeldAt w b L) : b < w.heap.size := h.2.lt
theorem HeldAt.setMark {w : World} {b : Nat} {L : List Bool} (h : HeldAt w b L) {k : Nat} (hk : k < L.length) (v : Bool) : HeldAt (w.setCell ⟨b, k, none⟩ (.bool v)) b (L.set k v) := by
  refine ⟨by simpa using h.1, (h.2.set k (.bool v)).congr fun i hi => ?_⟩
  have h16 := h.1
  unfold hCell
  by_cases h1 : i = 16
  · subst h1; simp; omega
  · rw [if_neg h1, if_neg h1]
    by_cases h2 : i = k
    · subst h2; simp [List.getD, hk]
    · have : ¬ k = i := fun e => h2 e.symm
      simp [h2, List.getD, this]
theorem HeldAt.push {w : World} {b : Nat} {L : List Bool} (h : HeldAt w b L) (hk : L.length < 16) : HeldAt ((w.setCell ⟨b, L.length, none⟩ (.bool true)).setCell ⟨b, 16, none⟩ (.int .i64 ((L.length : Int) + 1))) b (L ++ [true]) := by
  refine ⟨by simp; omega, ((h.2.set L.length (.bool true)).set 16 _).congr fun i hi => ?_⟩
  unfold hCell
  by_cases h1 : i = 16
  · subst h1; simp
  · rw [if_neg h1, if_neg h1, if_neg h1]
    by_cases h2 : i = L.length
    · subst h2; simp [List.getD]
    · rw [if_neg h2]
      rcases Nat.lt_or_ge i L.length with h3 | h3
      · simp [List.getD, List.getElem?_append, h3]
      · rw [getD_ge L h3, getD_ge (L ++ [true]) (by simp; omega)]

theorem held_has {w : World} {b : Nat} {L : List Bool} (r : Int) (h : HeldAt w b L) :
    Calls Try.prog 12 #[.pointer (some ⟨b, 0, none⟩), .int .i64 r] w fun e w' => e = .returned (.bool (hHas L r)) ∧ w' = w := by
  by_cases h1 : 0 ≤ r
  · by_cases h2 : r < 16
    · obtain ⟨k, rfl⟩ := Int.eq_ofNat_of_zero_le h1
      have c := h.mark (k := k) (by omega)
      have E : Hid (hHas L (k : Int) = L.getD k false) := hHas_cast L k
      have h3 : k < 16 := by omega
      clear h
      generalize L.getD k false = q at c E
      go_enter Try.func12, Try.ntmps12
      go_wp2
      go_ret
      exact ⟨by rw [E.out]; rfl, rfl⟩
    · have E : Hid (hHas L r = false) := by
        show _ = _
        obtain ⟨k, rfl⟩ := Int.eq_ofNat_of_zero_le h1
        rw [hHas_cast, getD_ge L (by have := h.1; omega)]
      have h2' : decide (r < 16) = false := by simpa using h2
      clear h
      go_enter Try.func12, Try.ntmps12
      go_wp2
      go_ret
      exact ⟨by rw [E.out]; rfl, rfl⟩
  · have E : Hid (hHas L r = false) := by show _ = _; simp [hHas, h1]
    have h1' : decide (0 ≤ r) = false := by simpa using h1
    clear h
    go_enter Try.func12, Try.ntmps12
    go_wp2
    go_ret
    exact ⟨by rw [E.out]; rfl, rfl⟩

theorem held_len {w : World} {b : Nat} {L : List Bool} (h : HeldAt w b L) :
    Calls Try.prog 13 #[.pointer (some ⟨b, 0, none⟩)] w fun e w' => e = .returned (.int .i64 (L.length : Int)) ∧ w' = w := by
  have c := h.count
  clear h
  generalize L.length = n at c
  go_enter Try.func13, Try.ntmps13
  go_wp2
  go_ret
  exact ⟨rfl, rfl⟩

/-- What an Open answers, and the state behind it. -/
def hOpenK (L : List Bool) : Int := if L.length < 16 then (L.length : Int) else -1
def hOpen (L : List Bool) : List Bool := if L.length < 16 then L ++ [true] else L

theorem stepSet {b : Nat} {a w : World} (h : Step (fun k => k = b) (fun k => k = b) a w) (i : Nat) (v : Value) : Step (fun k => k = b) (fun k => k = b) a (w.setCell ⟨b, i, none⟩ v) := h.setCell (p := ⟨b, i, none⟩) rfl v

theorem held_open {w : World} {b : Nat} {L : List Bool} (h : HeldAt w b L) :
    Calls Try.prog 7 #[.pointer (some ⟨b, 0, none⟩)] w fun e w' => e = .returned (.int .i64 (hOpenK L)) ∧ HeldAt w' b (hOpen L) ∧ Step (fun k => k = b) (fun k => k = b) w w' := by
  have c := h.count
  have hl := h.1
  by_cases hk : L.length < 16
  · have E : Hid (hOpenK L = (L.length : Int) ∧ hOpen L = L ++ [true]) := by show _ ∧ _; simp [hOpenK, hOpen, hk]
    have m := h.mark hk
    have f : ∀ i, w.frozen? ⟨b, i, none⟩ = false := h.2.frozen
    have P1 : Hid (HeldAt ((w.setCell ⟨b, L.length, none⟩ (.bool true)).setCell ⟨b, 16, none⟩ (.int .i64 ((L.length : Int) + 1))) b (L ++ [true])) := h.push hk
    have S1 : Hid (Step (fun k => k = b) (fun k => k = b) w ((w.setCell ⟨b, L.length, none⟩ (.bool true)).setCell ⟨b, 16, none⟩ (.int .i64 ((L.length : Int) + 1)))) := stepSet (stepSet (Step.refl _ _) _ _) _ _
    have hk' : ((L.length : Int) == 16) = false := by simp; omega
    clear h
    generalize hn : L.length = n at c m P1 S1 E hk hk' hl
    generalize L.getD n false = q at m
    go_enter Try.func7, Try.ntmps7
    go_wp2_with fail
    go_region
    go_wp2
    go_ret
    rw [E.out.1, E.out.2]
    exact ⟨rfl, P1.out, S1.out.drew⟩
  · have hk' : L.length = 16 := by omega
    have E : Hid (hOpenK L = -1 ∧ hOpen L = L) := by show _ ∧ _; simp [hOpenK, hOpen, hk]
    have P1 : Hid (HeldAt w b L) := h
    rw [hk'] at c
    clear h hk hk' hl
    go_enter Try.func7, Try.ntmps7
    go_wp2
    go_ret
    rw [E.out.1, E.out.2]
    exact ⟨rfl, P1.out, Step.refl _ _⟩

/-- The state behind a Shut. -/
def hShut (L : List Bool) (r : Int) : List Bool := if hHas L r then L.set r.toNat false else L

theorem held_shut {w : World} {b : Nat} {L : List Bool} (r : Int) (h : HeldAt w b L) :
    Calls Try.prog 9 #[.pointer (some ⟨b, 0, none⟩), .int .i64 r] w fun e w' => e = .returned (.bool (hHas L r)) ∧ HeldAt w' b (hShut L r) ∧ Step (fun k => k = b) (fun k => k = b) w w' := by
  have C : Hid (Calls Try.prog 12 #[.pointer (some ⟨b, 0, none⟩), .int .i64 r] w fun e w' => e = .returned (.bool (hHas L r)) ∧ w' = w) := held_has r h
  cases hh : hHas L r with
  | false =>
    have E : Hid (hShut L r = L) := by show _ = _; simp [hShut, hh]
    have P1 : Hid (HeldAt w b L) := h
    rw [hh] at C
    clear h hh
    go_enter Try.func9, Try.ntmps9
    go_wp2_with (go_at_call 12; refine (C.out).mono ?_; rintro e w' ⟨rfl, hw⟩; have hw := hw.symm; subst hw)
    go_ret
    rw [E.out]
    exact ⟨rfl, P1.out, Step.refl _ _⟩
  | true =>
    obtain ⟨k, rfl, hk, hm⟩ := hHas_true hh
    have E : Hid (hShut L (k : Int) = L.set k false) := by show _ = _; simp [hShut, hh]
    have P1 : Hid (HeldAt (w.setCell ⟨b, k, none⟩ (.bool false)) b (L.set k false)) := h.setMark hk false
    have S1 : Hid (Step (fun k => k = b) (fun k => k = b) w (w.setCell ⟨b, k, none⟩ (.bool false))) := stepSet (Step.refl _ _) _ _
    have hk16 : k < 16 := by have := h.1; omega
    have hk16' : (k : Int) < 16 := by omega
    have m := h.mark hk16
    have f : ∀ i, w.frozen? ⟨b, i, none⟩ = false := h.2.frozen
    rw [hh] at C
    generalize L.getD k false = q at m
    clear h hh hm
    go_enter Try.func9, Try.ntmps9
    go_wp2_with (go_at_call 12; refine (C.out).mono ?_; rintro e w' ⟨rfl, hw⟩; have hw := hw.symm; subst hw)
    go_ret
    rw [E.out]
    exact ⟨rfl, P1.out, S1.out⟩

/-- A new one of n regions. -/
def hNew (n : Int) : List Bool := List.replicate (min n 16).toNat true
theorem hOpen_rep {k : Nat} (hk : k < 16) : hOpen (List.replicate k true) = List.replicate (k + 1) true := by
  simp [hOpen, hk, List.replicate_succ']

theorem held_zero (w : World) : HeldAt (w.alloc (.cells #[.bool false, .bool false, .bool false, .bool false, .bool false, .bool false, .bool false, .bool false, .bool false, .bool false, .bool false, .bool false, .bool false, .bool false, .bool false, .bool false, .int .i64 0] 42)) w.heap.size [] := by
  refine ⟨by simp, World.rowIs_alloc w _ _ _ fun i hi => ?_⟩
  have hi : i < 17 := hi
  unfold hCell
  match i, hi with
  | 0, _ | 1, _ | 2, _ | 3, _ | 4, _ | 5, _ | 6, _ | 7, _ | 8, _ | 9, _ | 10, _ | 11, _ | 12, _ | 13, _ | 14, _ | 15, _ | 16, _ => rfl
  | i + 17, h => exact absurd h (by omega)

set_option maxHeartbeats 1000000 in
theorem held_new (w : World) (n : Int) (hn : -9223372036854775808 ≤ n ∧ n ≤ 9223372036854775807) :
    Calls Try.prog 5 #[.int .i64 n] w fun e w' => e = .returned (.pointer (some ⟨w.heap.size, 0, none⟩)) ∧ HeldAt w' w.heap.size (hNew n) ∧ Below w.heap.size w w' := by
  have Z : Hid (HeldAt (w.alloc (.cells #[.bool false, .bool false, .bool false, .bool false, .bool false, .bool false, .bool false, .bool false, .bool false, .bool false, .bool false, .bool false, .bool false, .bool false, .bool false, .bool false, .int .i64 0] 42)) w.heap.size []) := held_zero w
  obtain ⟨M, hM⟩ : ∃ M, (min n 16).toNat = M := ⟨_, rfl⟩
  have E : Hid (hNew n = List.replicate M true) := by show _ = _; rw [hNew, hM]
  have hM1 : ∀ k : Nat, k < M → (k : Int) < n ∧ (k : Int) < 16 := fun k hk => by omega
  have hM2 : ∀ k : Nat, ¬ k < M → ¬ (k : Int) < n ∨ ¬ (k : Int) < 16 := fun k hk => by omega
  go_enter Try.func5, Try.ntmps5
  by_cases h16 : 16 < n
  · have hM16 : M = 16 := by omega
    go_wp2
    go_loopw [8] (fun i wr => ∃ k : Nat, k ≤ M ∧ i = .int .i64 k ∧ HeldAt wr w.heap.size (List.replicate k true) ∧ Below w.heap.size w wr) (fun i _ => M - (intOf i).toNat)
    case atStart => exact ⟨0, Nat.zero_le _, rfl, Z.out, (Below.refl _ _).alloc (Nat.le_refl _) _⟩
    case round =>
      obtain ⟨k, hk, rfl, hA, hB⟩ := hrel
      have HA : Hid (HeldAt wr w.heap.size (List.replicate k true)) := hA
      have HB : Hid (Below w.heap.size w wr) := hB
      clear hA hB Z
      by_cases hlt : k < M
      · obtain ⟨h1, h2⟩ := hM1 k hlt
        go_wp2_with fail
        refine (held_open HA.out).mono ?_
        rintro e w2 ⟨rfl, hA2, hs2⟩
        have R : Hid (HeldAt w2 w.heap.size (List.replicate (k + 1) true) ∧ Below w.heap.size w w2) := by
          refine ⟨by rw [← hOpen_rep (by omega)]; exact hA2, HB.out.trans (hs2.below HB.out.size fun k hk => by omega)⟩
        clear hA2 hs2 HA HB
        go_wp2
        go_roundw
        case rel => exact ⟨k + 1, by omega, by go_num, R.out⟩
        case measure => simp [intOf]; omega
      · have h3 : ¬ (k : Int) < 16 := by omega
        have hkM : k = M := by omega
        go_wp2
        go_ret
        refine ⟨rfl, ?_, HB.out⟩
        rw [E.out, ← hkM]; exact HA.out
  · go_wp2
    go_loopw [8] (fun i wr => ∃ k : Nat, k ≤ M ∧ i = .int .i64 k ∧ HeldAt wr w.heap.size (List.replicate k true) ∧ Below w.heap.size w wr) (fun i _ => M - (intOf i).toNat)
    case atStart => exact ⟨0, Nat.zero_le _, rfl, Z.out, (Below.refl _ _).alloc (Nat.le_refl _) _⟩
    case round =>
      obtain ⟨k, hk, rfl, hA, hB⟩ := hrel
      have HA : Hid (HeldAt wr w.heap.size (List.replicate k true)) := hA
      have HB : Hid (Below w.heap.size w wr) := hB
      clear hA hB Z
      by_cases hlt : k < M
      · obtain ⟨h1, h2⟩ := hM1 k hlt
        go_wp2_with fail
        refine (held_open HA.out).mono ?_
        rintro e w2 ⟨rfl, hA2, hs2⟩
        have R : Hid (HeldAt w2 w.heap.size (List.replicate (k + 1) true) ∧ Below w.heap.size w w2) := by
          refine ⟨by rw [← hOpen_rep (by omega)]; exact hA2, HB.out.trans (hs2.below HB.out.size fun k hk => by omega)⟩
        clear hA2 hs2 HA HB
        go_wp2
        go_roundw
        case rel => exact ⟨k + 1, by omega, by go_num, R.out⟩
        case measure => simp [intOf]; omega
      · have h3 : ¬ (k : Int) < n := by omega
        have hkM : k = M := by omega
        go_wp2
        go_ret
        refine ⟨rfl, ?_, HB.out⟩
        rw [E.out, ← hkM]; exact HA.out

theorem under16 : Try.prog.underlying 40 = some (.array 16 4) := by kernel_rfl
theorem underB : Try.prog.underlying 4 = some .bool := by kernel_rfl
theorem sizeB : (Try.prog.info? 4).map (·.size) = some 1 := by kernel_rfl
theorem size16 : (Try.prog.info? 40).map (·.size) = some 16 := by kernel_rfl
/-- A row of numbers that was appended to. -/
theorem intRow_push {w4 w9 : World} {lo : Nat} {a : Option Addr} {c : Nat} {xs : List Int} {cs : List Value} {x : Int} (hA : ARow Lay.int 3 w4 lo (.slice a xs.length c) xs cs) (hx : -9223372036854775808 ≤ x ∧ x ≤ 9223372036854775807) {o : Obj} {g cap : Nat} (hlo : lo ≤ w4.heap.size)
    (h1 : w9.ownsRow lo 3 1 (.slice (some ⟨g, 0, none⟩) (xs.length + 1) cap) (xs.length + 1) (cs ++ [.int .i64 x])) (h2 : (w4.alloc o).grownBy w9 (Value.slice a xs.length c).ownBlock) (h3 : (Value.slice a xs.length c).ownBlock = some g ∨ g = w4.heap.size + 1) :
    ARow Lay.int 3 w9 lo (.slice (some ⟨g, 0, none⟩) (xs.length + 1) cap) (xs ++ [x]) (cs ++ [.int .i64 x]) ∧ ∀ w, Below lo w w4 → Below lo w w9 := by
  have A5 := hA.below (bel1 w4 o)
  have T5 : Lay.int.In (w4.alloc o) (fun g => lo ≤ g ∧ (Value.slice a xs.length c).ownBlock ≠ some g) x [.int .i64 x] := Lay.int_mk _ _ hx
  refine ⟨ARow.push A5 T5 h2 (by simpa using h3) h1, fun w hb => (hb.alloc hlo _).grown h2 (by simp; omega) (fun k hk => (A5.lo_le hk).1)⟩

/-- What a list of numbers is answered as. -/
def IntsOut (w : World) (l : List Int) (e : Ending) (w' : World) : Prop := ∃ a c, e = .returned (.slice a l.length c) ∧ intsL.In w' (fun g => w.heap.size ≤ g) l [.slice a l.length c] ∧ Below w.heap.size w w'

set_option maxHeartbeats 1000000 in
theorem held_list {w : World} {b : Nat} {L : List Bool} (h : HeldAt w b L) :
    Calls Try.prog 15 #[.pointer (some ⟨b, 0, none⟩)] w fun e w' => IntsOut w (hList L) e w' := by
  obtain ⟨i0, hi, hz0, hz1, hz2⟩ := pInfoI
  have hr : w.rangeAt b 0 ((List.range 16).map fun i => Value.bool (L.getD i false)) := fun j v hv => by
    rw [List.getElem?_map] at hv
    cases hj : (List.range 16)[j]? with
    | none => rw [hj] at hv; cases hv
    | some k =>
      have hjl : j < 16 := by have := (List.getElem?_eq_some_iff.1 hj).1; simpa using this
      rw [List.getElem?_range hjl] at hj
      cases hj
      rw [List.getElem?_range hjl] at hv
      simp only [Option.map_some, Option.some.injEq] at hv
      rw [← hv, Nat.zero_add]
      exact h.mark hjl
  have E : Hid (hTo L 16 = hList L) := hTo_ge L 16 h.1
  have hix : ∀ (k : Nat) (wx : World), k < 16 → (Instr.index 40 (.agg ((List.range 16).map fun i => Value.bool (L.getD i false)).toArray) (.int .i64 (k : Int))).run Try.prog wx = .ok (.bool (L.getD k false)) wx := fun k wx hk => by
    have hp : (part 4 ((List.range 16).map fun i => Value.bool (L.getD i false)).toArray (k * 1)).run Try.prog wx = .ok (.bool (L.getD k false)) wx := by
      have hc : ((List.range 16).map fun i => Value.bool (L.getD i false)).toArray[k * 1]? = some (.bool (L.getD k false)) := by
        simp [hk]
      simp only [part, isAgg, Sem.run_bind, run_underlying underB, Result.andThen_ok, Sem.run_pure, Bool.false_eq_true, if_false, hc]
    have hsz : (sizeOf 4).run Try.prog wx = .ok 1 wx := by
      have hs := sizeB
      cases hq : Try.prog.info? 4 with
      | none => simp [hq] at hs
      | some i => simp [hq] at hs; simp [sizeOf, typeInfo, hq, hs]
    have hkk : (0 : Int) ≤ (k : Int) ∧ (k : Int) < (16 : Nat) := by omega
    simp only [Instr.index, asIntOf, Sem.run_bind, Sem.run_pure, run_underlying under16, Result.andThen_ok, hkk, and_self, if_true, hsz, Int.toNat_natCast, hp]
  have HS : Hid ((Try.prog.info? 40).map (·.size) = some ((List.range 16).map fun i => Value.bool (L.getD i false)).length) := by show _ = _; rw [List.length_map, List.length_range]; exact size16
  have HR : Hid (w.rangeAt b 0 ((List.range 16).map fun i => Value.bool (L.getD i false))) := hr
  generalize ((List.range 16).map fun i => Value.bool (L.getD i false)) = cs0 at hr hix HR HS
  clear hr
  clear h
  go_enter Try.func15, Try.ntmps15
  go_wp2_with (refine wpList_load_mid rfl 40 (.tmp 8) rfl b 0 rfl cs0 _ HR.out under16 rfl HS.out ?_)
  go_loopw [3, 10] (fun v u wr => ∃ k cs, u = .int .i64 (k : Nat) ∧ k ≤ 16 ∧ ARow Lay.int 3 wr w.heap.size v (hTo L k) cs ∧ Below w.heap.size w wr) (fun _ u _ => 16 - (intOf u).toNat)
  case atStart => exact ⟨0, [], rfl, by omega, ARow.nil _ _ _ _, Below.refl _ _⟩
  case round =>
    obtain ⟨k, cs, rfl, hk, hA, hB⟩ := hrel
    obtain ⟨a, c, rfl⟩ := hA.formP
    have HA : Hid (ARow Lay.int 3 wr w.heap.size (.slice a (hTo L k).length c) (hTo L k) cs) := hA
    have HB : Hid (Below w.heap.size w wr) := hB
    have hlen := hTo_len L k
    have hsz : w.heap.size ≤ wr.heap.size := hB.size
    clear hA hB
    by_cases hlt : k < 16
    · have hlt' : (k : Int) < 16 := by omega
      have hix' := fun wx => hix k wx hlt
      clear hix
      cases hm : L.getD k false with
      | false =>
        have E2 : Hid (hTo L (k + 1) = hTo L k) := by show _ = _; rw [hTo, hm]; simp
        rw [hm] at hix'
        clear hm
        go_wp2
        go_roundw
        case rel => exact ⟨k + 1, cs, by go_num, by omega, by rw [E2.out]; exact HA.out, HB.out⟩
        case measure => simp [intOf]; omega
      | true =>
        have E2 : Hid (hTo L (k + 1) = hTo L k ++ [(k : Int)]) := by show _ = _; rw [hTo, hm]; simp
        rw [hm] at hix'
        have hown : Hid (wr.ownsRow w.heap.size 3 1 (.slice a (hTo L k).length c) (hTo L k).length cs) := HA.out.own
        have PU : Hid (∀ g cap w9, w9.ownsRow w.heap.size 3 1 (.slice (some ⟨g, 0, none⟩) ((hTo L k).length + 1) cap) ((hTo L k).length + 1) (cs ++ [.int .i64 (k : Int)]) → (wr.alloc (.cells #[.int .i64 (k : Int)] 3)).grownBy w9 (Value.slice a (hTo L k).length c).ownBlock → ((Value.slice a (hTo L k).length c).ownBlock = some g ∨ g = wr.heap.size + 1) →
            ARow Lay.int 3 w9 w.heap.size (.slice (some ⟨g, 0, none⟩) ((hTo L k).length + 1) cap) (hTo L (k + 1)) (cs ++ [.int .i64 (k : Int)]) ∧ Below w.heap.size w w9) := by
          intro g cap w9 h1 h2 h3
          obtain ⟨q1, q2⟩ := intRow_push HA.out (by omega) hsz h1 h2 h3
          rw [E2.out]
          exact ⟨q1, q2 w HB.out⟩
        have EL : Hid ((hTo L (k + 1)).length = (hTo L k).length + 1) := by show _ = _; rw [E2.out]; simp
        clear hm HA HB E2
        generalize (hTo L k).length = n at hown PU EL hlen ⊢
        go_wp2_with (at_builtin; refine wpList_append_lies _ rfl (.tmp 15) (.tmp 17) 28 rfl w.heap.size 3 i0 (.int .i64 0) 1 8 pUnderI hi hz0 hz1 hz2 rfl (by decide) _ _ _ rfl (hown.out.alloc _) ⟨wr.heap.size, 0, none⟩ 1 1 [.int .i64 (k : Int)] rfl rfl (newsP _ [_] _) (pOneI _) (by decide) (by unfold maxLen; omega) (by omega) (by simp; omega) (wr.heap.size + 1) (by simp) ?_)
        intro g2 cap2 w9 h1 hgrow hat hlt1
        obtain ⟨q1, q2⟩ := PU.out g2 cap2 w9 h1 hgrow hat
        have A9 : Hid (ARow Lay.int 3 w9 w.heap.size (.slice (some ⟨g2, 0, none⟩) (n + 1) cap2) (hTo L (k + 1)) (cs ++ [.int .i64 (k : Int)])) := q1
        have B9 : Hid (Below w.heap.size w w9) := q2
        clear h1 hgrow hat hlt1 hown PU q1 q2
        go_wp2
        go_roundw
        case rel => exact ⟨k + 1, _, by go_num, by omega, A9.out, B9.out⟩
        case measure => simp [intOf]; omega
    · have hk16 : k = 16 := by omega
      subst hk16
      have Z : Hid (IntsOut w (hList L) (.returned (.slice a (hTo L 16).length c)) wr) := by
        rw [E.out]
        refine ⟨a, c, rfl, ?_, HB.out⟩
        have := HA.out.lay
        rw [E.out] at this
        exact this
      clear HA HB hix hlen
      generalize (hTo L 16).length = n at Z
      go_wp2
      go_ret
      exact Z.out

theorem eqGuard16 : Try.prog.eqGuardType Try.prog.depth 40 = false := by kernel_rfl
/-- Sixteen marks in a block of their own. -/
theorem marks_row {w : World} {t : TypeId} (f : Nat → Bool) {c : Array Value} (hc : c.size = 16) : ((w.alloc (.cells c t)).setCells w.heap.size 0 ((List.range 16).map fun i => Value.bool (f i)).toArray.toList).rowIs w.heap.size t 16 (fun i => .bool (f i)) := by
  have h0 : Blk (w.alloc (.cells c t)) w.heap.size ([] ++ c.toList).toArray t := by rw [List.nil_append, Array.toArray_toList]; exact blockNew w c t
  have h1 := Blk.sets ((List.range 16).map fun i => Value.bool (f i)) [] c.toList (w.alloc (.cells c t)) (by simp [hc]) h0
  refine ⟨_, h1, by simp, fun i hi => ?_⟩
  simp [hi]
theorem rowIs_range {w : World} {b : Nat} {t : TypeId} {f : Nat → Bool} (h : w.rowIs b t 16 (fun i => .bool (f i))) : w.rangeAt b 0 ((List.range 16).map fun i => Value.bool (f i)) := fun j v hv => by
  rw [List.getElem?_map] at hv
  cases hj : (List.range 16)[j]? with
  | none => rw [hj] at hv; cases hv
  | some k =>
    have hjl : j < 16 := by have := (List.getElem?_eq_some_iff.1 hj).1; simpa using this
    rw [List.getElem?_range hjl] at hj
    cases hj
    rw [List.getElem?_range hjl] at hv
    simp only [Option.map_some, Option.some.injEq] at hv
    rw [← hv, Nat.zero_add]
    exact h.cell hjl
theorem HeldAt.marks {w : World} {b : Nat} {L : List Bool} (h : HeldAt w b L) : w.rangeAt b 0 ((List.range 16).map fun i => Value.bool (L.getD i false)) := fun j v hv => by
  rw [List.getElem?_map] at hv
  cases hj : (List.range 16)[j]? with
  | none => rw [hj] at hv; cases hv
  | some k =>
    have hjl : j < 16 := by have := (List.getElem?_eq_some_iff.1 hj).1; simpa using this
    rw [List.getElem?_range hjl] at hj
    cases hj
    rw [List.getElem?_range hjl] at hv
    simp only [Option.map_some, Option.some.injEq] at hv
    rw [← hv, Nat.zero_add]
    exact h.mark hjl
theorem bools_one (f : Nat → Bool) : ((List.range 16).map fun i => Value.bool (f i)).toArray.all (·.oneCell') = true :=
  all_oneCell_toArray fun v hv => by obtain ⟨i, _, rfl⟩ := List.mem_map.1 hv; rfl
theorem there_new (w : World) (t : TypeId) (c : Array Value) (n : Nat) (hn : n ≤ c.size) : (w.alloc (.cells c t)).there w.heap.size 0 n := fun j hj => by
  have h := blockNew w c t
  rw [Nat.zero_add]
  refine ⟨?_, freeOf h j⟩
  rw [cellOf h j c[j] (by simp)]; rfl

set_option maxHeartbeats 2000000 in
theorem held_pass {w : World} {b : Nat} {L : List Bool} {Q : Nat → Prop} {l : List Int} {a : Option Addr} {N c : Nat} (hN : l.length = N) (hN2 : N ≤ 100000) (hl : intsL.In w Q l [.slice a N c]) (h : HeldAt w b L) :
    Calls Try.prog 10 #[.pointer (some ⟨b, 0, none⟩), .slice a N c] w fun e w' => e = .returned (.int .i64 (hPass L [] l)) ∧ Below w.heap.size w w' := by
  have HX : Hid (∀ i x, l[i]? = some x → ∃ g o, a = some ⟨g, o, none⟩ ∧ g < w.heap.size ∧ w.cell? ⟨g, o + i, none⟩ = some (.int .i64 x)) := fun i x hi => by
    obtain ⟨g, o, ds, e1, e2, e3, hc, hd, hr⟩ := Lay.list_at hl hi
    have hd' : ds = [.int .i64 x] := hd
    subst hd'
    refine ⟨g, o, e1, e3, ?_⟩
    have := hc 0 (by decide)
    simpa [Lay.int] using this
  have HN : Hid (l.length = N) := hN
  have HL : Hid (L.length ≤ 16) := h.1
  have HH : Hid (HeldAt w b L) := h
  have HR : Hid (w.rangeAt b 0 ((List.range 16).map fun i => Value.bool (hLeft L [] i))) := by
    have := h.marks
    simp only [← hLeft_nil] at this
    exact this
  have HS : Hid ((Try.prog.info? 40).map (·.size) = some ((List.range 16).map fun i => Value.bool (hLeft L [] i)).length) := by show _ = _; rw [List.length_map, List.length_range]; exact size16
  have HT : Hid ((Try.prog.info? 40).map (·.size) = some ((List.range 16).map fun i => Value.bool (hLeft L [] i)).toArray.size) := by show _ = _; rw [List.size_toArray, List.length_map, List.length_range]; exact size16
  have HU : Hid (((List.range 16).map fun i => Value.bool (hLeft L [] i)).toArray.all (·.oneCell') = true) := bools_one _
  have HV : Hid ((w.alloc (.cells #[.bool false, .bool false, .bool false, .bool false, .bool false, .bool false, .bool false, .bool false, .bool false, .bool false, .bool false, .bool false, .bool false, .bool false, .bool false, .bool false] 40)).there w.heap.size 0 ((List.range 16).map fun i => Value.bool (hLeft L [] i)).toArray.size) := by
    refine there_new w _ _ _ ?_
    rw [List.size_toArray, List.length_map, List.length_range]
    exact Nat.le_refl _
  have W1 : Hid (((w.alloc (.cells #[.bool false, .bool false, .bool false, .bool false, .bool false, .bool false, .bool false, .bool false, .bool false, .bool false, .bool false, .bool false, .bool false, .bool false, .bool false, .bool false] 40)).setCells w.heap.size 0 ((List.range 16).map fun i => Value.bool (hLeft L [] i)).toArray.toList).rowIs w.heap.size 40 16 (fun i => .bool (hLeft L [] i))) := marks_row _ rfl
  have B1 : Hid (Below w.heap.size w ((w.alloc (.cells #[.bool false, .bool false, .bool false, .bool false, .bool false, .bool false, .bool false, .bool false, .bool false, .bool false, .bool false, .bool false, .bool false, .bool false, .bool false, .bool false] 40)).setCells w.heap.size 0 ((List.range 16).map fun i => Value.bool (hLeft L [] i)).toArray.toList)) := by
    have := Step.setCells (O := fun k => k = w.heap.size) (O' := fun k => k = w.heap.size) (b := w.heap.size) rfl ((List.range 16).map fun i => Value.bool (hLeft L [] i)).toArray.toList 0 _ ((Step.refl _ w).alloc (.cells #[.bool false, .bool false, .bool false, .bool false, .bool false, .bool false, .bool false, .bool false, .bool false, .bool false, .bool false, .bool false, .bool false, .bool false, .bool false, .bool false] 40))
    exact this.below (Nat.le_refl _) (fun k hk => by omega)
  clear h hl hN
  generalize ((List.range 16).map fun i => Value.bool (hLeft L [] i)) = cs0 at HR HS HT HU HV W1 B1
  go_enter Try.func10, Try.ntmps10
  go_wp2_with (first | (refine wpList_load_mid rfl 40 (.tmp 10) rfl b 0 rfl cs0 _ HR.out under16 rfl HS.out ?_) | (refine wpList_store_mid rfl 40 (.tmp 5) (.tmp 11) rfl w.heap.size 0 cs0.toArray rfl rfl HV.out HT.out HU.out ?_))
  go_loopw [14] (fun u wr => ∃ k, u = .int .i64 (k : Nat) ∧ k ≤ N ∧ wr.rowIs w.heap.size 40 16 (fun i => .bool (hLeft L (l.take k) i)) ∧ Below w.heap.size w wr ∧ hPass L [] l = hPass L (l.take k) (l.drop k)) (fun u _ => N - (intOf u).toNat)
  case atStart => exact ⟨0, rfl, Nat.zero_le _, W1.out, B1.out, rfl⟩
  case round =>
    obtain ⟨k, rfl, hk, hr, hB, hp⟩ := hrel
    have RR : Hid (wr.rowIs w.heap.size 40 16 (fun i => .bool (hLeft L (l.take k) i))) := hr
    have HB : Hid (Below w.heap.size w wr) := hB
    have HP : Hid (hPass L [] l = hPass L (l.take k) (l.drop k)) := hp
    clear hr hB hp W1 B1 HR HS HT HU HV
    by_cases hlt : k < N
    · have hxi : l[k]? = some (l[k]'(by rw [HN.out]; exact hlt)) := List.getElem?_eq_getElem _
      generalize l[k]'(by rw [HN.out]; exact hlt) = x at hxi
      obtain ⟨g, o, rfl, hg, yc⟩ := HX.out k x hxi
      have yc' : wr.cell? ⟨g, o + k, none⟩ = some (.int .i64 x) := (HB.out.cell (p := ⟨g, o + k, none⟩) hg).trans yc
      have hlt' : (k : Int) < N := by omega
      have PS := hPass_step L l hxi
      rw [← HP.out] at PS
      have C : Hid (Calls Try.prog 12 #[.pointer (some ⟨b, 0, none⟩), .int .i64 x] wr fun e w' => e = .returned (.bool (hHas L x)) ∧ w' = wr) := held_has x (HH.out.below HB.out)
      cases hh : hHas L x with
      | false =>
        rw [hh] at C PS
        have E : Hid (hPass L [] l = 10) := by show _ = _; simpa using PS
        clear PS hh yc hxi
        go_wp2_with (go_at_call 12; refine (C.out).mono ?_; rintro e w' ⟨rfl, hw⟩; have hw := hw.symm; subst hw)
        go_ret
        exact ⟨by rw [E.out]; rfl, HB.out⟩
      | true =>
        obtain ⟨j, rfl, hj, hm⟩ := hHas_true hh
        rw [hh] at C PS
        have hj16 : j < 16 := by have := HL.out; omega
        have hj16' : (j : Int) < 16 := by omega
        have cj : wr.cell? ⟨w.heap.size, j, none⟩ = some (.bool (hLeft L (l.take k) j)) := RR.out.cell hj16
        have fj : ∀ i, wr.frozen? ⟨w.heap.size, i, none⟩ = false := RR.out.frozen
        have EJ : hLeft L (l.take k) j = !inB (l.take k) (j : Int) := by rw [hLeft, hm, Bool.true_and]
        rw [EJ] at cj
        cases hi : inB (l.take k) (j : Int) with
        | true =>
          rw [hi] at PS cj
          have E : Hid (hPass L [] l = 13) := by show _ = _; simpa using PS
          clear PS hh yc hxi EJ hi hm
          go_wp2_with (go_at_call 12; refine (C.out).mono ?_; rintro e w' ⟨rfl, hw⟩; have hw := hw.symm; subst hw)
          go_ret
          exact ⟨by rw [E.out]; rfl, HB.out⟩
        | false =>
          rw [hi] at PS cj
          have E : Hid (hPass L [] l = hPass L (l.take (k + 1)) (l.drop (k + 1))) := by show _ = _; simpa using PS
          have ET : l.take (k + 1) = l.take k ++ [(j : Int)] := by rw [List.take_add_one, hxi]; rfl
          have RN : Hid ((wr.setCell ⟨w.heap.size, j, none⟩ (.bool false)).rowIs w.heap.size 40 16 (fun i => .bool (hLeft L (l.take (k + 1)) i))) := by
            refine (RR.out.set j (.bool false)).congr fun i hi => ?_
            rw [ET, hLeft_snoc]
            by_cases e : i = j
            · rw [if_pos e, if_pos e]
            · rw [if_neg e, if_neg e]
          have BN : Hid (Below w.heap.size w (wr.setCell ⟨w.heap.size, j, none⟩ (.bool false))) := HB.out.setCell (p := ⟨w.heap.size, j, none⟩) (Nat.le_refl _) _
          clear PS hh yc hxi EJ hi hm ET RR HB HP
          go_wp2_with (go_at_call 12; refine (C.out).mono ?_; rintro e w' ⟨rfl, hw⟩; have hw := hw.symm; subst hw)
          go_roundw
          case rel => exact ⟨k + 1, by go_num, by omega, RN.out, BN.out, E.out⟩
          case measure => simp [intOf]; omega
    · have hlt' : ¬ (k : Int) < N := by omega
      have hkl : l.length ≤ k := by rw [HN.out]; omega
      have PE := hPass_end L l hkl
      rw [← HP.out] at PE
      have HR : Hid (wr.rangeAt w.heap.size 0 ((List.range 16).map fun i => Value.bool (hLeft L (l.take k) i))) := rowIs_range RR.out
      rw [List.take_of_length_le hkl] at HR
      have HS : Hid ((Try.prog.info? 40).map (·.size) = some ((List.range 16).map fun i => Value.bool (hLeft L l i)).length) := by show _ = _; rw [List.length_map, List.length_range]; exact size16
      have heq : ∀ wx, (Op.equalIn 10000 40 (.agg ((List.range 16).map fun i => Value.bool (hLeft L l i)).toArray) (.agg #[.bool false, .bool false, .bool false, .bool false, .bool false, .bool false, .bool false, .bool false, .bool false, .bool false, .bool false, .bool false, .bool false, .bool false, .bool false, .bool false])).run Try.prog wx = .ok ((hList L).all (fun r => inB l r)) wx := fun wx => by
        have := run_equalIn_bools (d := 9998) under16 underB sizeB wx ((List.range 16).map (hLeft L l)) (List.replicate 16 false) (by simp) (by simp)
        rw [List.map_map] at this
        refine Eq.trans this ?_
        congr 1
        rw [Bool.eq_iff_iff, beq_iff_eq]
        exact hLeft_none HL.out
      generalize ((List.range 16).map fun i => Value.bool (hLeft L l i)) = cs0 at HR HS heq
      have hgd := eqGuard16
      clear HP RR HX hkl
      cases hq : (hList L).all (fun r => inB l r) with
      | true =>
        rw [hq] at heq PE
        have E : Hid (hPass L [] l = 0) := by show _ = _; simpa using PE
        clear PE hq
        go_wp2_with (refine wpList_load_mid rfl 40 (.tmp 5) rfl w.heap.size 0 rfl cs0 _ HR.out under16 rfl HS.out ?_)
        go_ret
        exact ⟨by rw [E.out]; rfl, HB.out⟩
      | false =>
        rw [hq] at heq PE
        have E : Hid (hPass L [] l = 12) := by show _ = _; simpa using PE
        clear PE hq
        go_wp2_with (refine wpList_load_mid rfl 40 (.tmp 5) rfl w.heap.size 0 rfl cs0 _ HR.out under16 rfl HS.out ?_)
        go_ret
        exact ⟨by rw [E.out]; rfl, HB.out⟩

end Go.Proofs.Ytcenkidhaoncgad
