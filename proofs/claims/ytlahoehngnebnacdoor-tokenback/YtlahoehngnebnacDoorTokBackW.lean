/-
  The law TokenBack.
-/
import Derived.Test.YtlahoehngnebnacDoorTokBeg
import Derived.Deep.QuietTactic
import Derived.BigQuiet
namespace Go.Proofs.YtlahoehngnebnacDoor
open Go.ChangeShapes Go.WideShapes Go.ChangeAt Go.RowKit Go.Shelf
set_option linter.unusedVariables false
set_option linter.unusedSimpArgs false

theorem backL_app (a b : List Tk) : backL (a ++ b) = backL a ++ backL b := by
  induction a with
  | nil => rfl
  | cons x a ih => simp [backL, ih]
theorem backL_take {ts : List Tk} {q : Nat} {x : Tk} (hx : ts[q]? = some x) : backL (ts.take (q + 1)) = backL (ts.take q) ++ (x.text ++ [32, 35, 32, 45, 10]) := by
  rw [List.take_add_one, hx, backL_app]
  simp [backL]
/-- Strings one behind the other. -/
theorem str_app (a b : List UInt8) : str a ++ str b = str (a ++ b) := by
  apply ByteArray.ext
  simp [str]
theorem tk_len {ts : List Tk} {q : Nat} {x : Tk} (hx : ts[q]? = some x) (h : ∀ t ∈ ts, t.text.length ≤ 3000) : x.text.length ≤ 3000 := h x (List.mem_of_getElem? hx)
theorem back_take_le (ts : List Tk) (q : Nat) : (backL (ts.take q)).length ≤ (backL ts).length := by
  have : backL ts = backL (ts.take q) ++ backL (ts.drop q) := by rw [← backL_app, List.take_append_drop]
  rw [this]; simp

theorem scanF_code : ∀ (f pos : Nat) (l : List UInt8) {c a : Nat}, scanF f pos l = .fault c a → c = 6 ∨ c = 8
  | 0, pos, l, c, a, h => by cases h
  | f + 1, pos, l, c, a, h => by
    unfold scanF at h
    split at h
    · cases h
    · split at h
      · rename_i e
        injection h with h1 h2
        subst h1
        exact tok_code e
      · rename_i k b n e
        cases e2 : scanF f (pos + k + blk false (l.drop k)) ((l.drop k).drop (blk false (l.drop k))) with
        | fault c' a' =>
          rw [e2] at h
          injection h with h1 h2
          subst h1
          exact scanF_code f _ _ e2
        | ok us => rw [e2] at h; cases h
theorem scanL_code {l : List UInt8} {c a : Nat} (h : scanL l = .fault c a) : c = 2 ∨ c = 6 ∨ c = 8 := by
  unfold scanL at h
  split at h
  · injection h with h1 h2; omega
  · exact .inr (scanF_code _ _ _ h)
set_option maxHeartbeats 8000000 in
set_option maxRecDepth 100000 in
theorem back_any (s : ByteArray) (w : World) (hw0 : Laid w) (hs : s.size ≤ maxLen) :
    Calls Tryd.prog 3 #[.string s] w fun e w' => e = .returned (.bool true) ∧ Below w.heap.size w w' := by
  have hw : Hid (Laid w) := hw0
  have hsl : Hid (s.size ≤ maxLen) := hs
  unfold maxLen at hs
  clear hw0
  have CB : Hid (Calls Tryd.prog 4 #[] w fun e w' => e = .returned (.bool true) ∧ Below w.heap.size w w') := begun_any w hw.out
  by_cases hbig : 3000 < s.size
  · have hbig' : (3000 : Int) < s.size := by omega
    go_enter Tryd.func3, Tryd.ntmps3
    go_wp2_with (go_at_call 4; refine CB.out.mono ?_; rintro e w1 ⟨rfl, b1⟩; have B1 : Hid _ := b1; clear b1)
    go_ret
    exact ⟨rfl, B1.out⟩
  · have hbig' : ¬ (3000 : Int) < s.size := by omega
    go_enter Tryd.func3, Tryd.ntmps3
    go_wp2_with fail
    refine CB.out.mono ?_
    rintro e w1 ⟨rfl, b1⟩
    have B1 : Hid (Below w.heap.size w w1) := b1
    clear b1 CB
    go_wp2_with fail
    refine (scan_any s w1 (hw.out.below B1.out) hsl.out).mono ?_
    intro e w2 h2
    cases hsc : scanL s.data.toList with
    | fault c a =>
      rw [hsc] at h2
      obtain ⟨rfl, b2⟩ := h2
      have hc : Hid (c = 2 ∨ c = 6 ∨ c = 8) := scanL_code hsc
      have hc0 : ¬ (c : Int) = 0 := by have := hc.out; omega
      have B2 : Hid (Below w.heap.size w w2) := Below.andThen B1.out b2
      clear b2 hsc hw hsl B1
      go_wp2
      go_ret
      exact ⟨rfl, B2.out.alloc B2.out.size _⟩
    | ok ts =>
      rw [hsc] at h2
      obtain ⟨a1, c1, rfl, l1, b2⟩ := h2
      obtain ⟨k1, k2, k3, us, k4, k5, k6⟩ := scanL_back (by rw [list_len]; omega) hsc
      have hln : ts.length ≤ 3000 := k1
      have K2 : Hid ((backL ts).length ≤ 18000) := k2
      have K3 : Hid (∀ t ∈ ts, t.text.length ≤ 3000) := k3
      have K4 : Hid (scanL (backL ts) = .ok us) := k4
      have K5 : Hid (us.length = ts.length) := k5
      have K6 : Hid (∀ (i : Nat) x y, ts[i]? = some x → us[i]? = some y → sameTk x y) := k6
      have B2 : Hid (Below w.heap.size w w2) := Below.andThen B1.out b2
      have L1 : Hid (tkL.list.In w2 (fun g => w1.heap.size ≤ g) ts [.slice a1 ts.length c1]) := l1
      clear b2 hsc hsl B1 l1 k1 k2 k3 k4 k5 k6
      go_wp2_with fail
      have L3 : Hid (tkL.list.In (w2.alloc (.cells #[.int .i64 0, .int .i64 0] 25)) (fun g => w1.heap.size ≤ g) ts [.slice a1 ts.length c1]) := Lay.alloc L1.out _
      have B3 : Hid (Below w.heap.size w (w2.alloc (.cells #[.int .i64 0, .int .i64 0] 25))) := B2.out.alloc B2.out.size _
      generalize w2.alloc (.cells #[.int .i64 0, .int .i64 0] 25) = w3 at B3 L3 ⊢
      clear B2 L1
      go_loop [5, 6] (fun t i => ∃ q : Nat, q ≤ ts.length ∧ t = .string (str (backL (ts.take q))) ∧ i = .int .i64 q) (fun _ i => ts.length - (intOf i).toNat)
      case atStart => exact ⟨0, Nat.zero_le _, rfl, rfl⟩
      case round =>
        obtain ⟨q, hq, rfl, rfl⟩ := hrel
        by_cases hlt : q < ts.length
        · have hlt' : (q : Int) < ts.length := by omega
          have hx : ts[q]? = some ts[q] := List.getElem?_eq_getElem hlt
          generalize ts[q] = x at hx
          obtain ⟨g, o, rfl, _, hg, d0, d1, d2, d3⟩ := tk_at L3.out hx
          have e1 : Hid (backL (ts.take (q + 1)) = backL (ts.take q) ++ (x.text ++ [32, 35, 32, 45, 10])) := backL_take hx
          have e2 : Hid ((backL (ts.take q)).length + (x.text.length + 5) ≤ 18000) := by
            show _ ≤ _
            have h := back_take_le ts (q + 1)
            rw [e1.out] at h
            have := K2.out
            simp only [List.length_append, List.length_cons, List.length_nil] at h
            omega
          have n1 : ¬ 9223372036854775807 < (str x.text).size + 5 := by rw [str_size]; have := e2.out; omega
          have n2 : ¬ 9223372036854775807 < (str (backL (ts.take q))).size + ((str x.text).size + 5) := by rw [str_size, str_size]; have := e2.out; omega
          clear hx d0 d2 d3
          go_wp2_with fail
          go_round
          case rel => exact ⟨q + 1, by omega, by rw [e1.out, ← str_app, ← str_app]; rfl, by go_num⟩
          case measure => simp [intOf]; omega
        · have hlt' : ¬ (q : Int) < ts.length := by omega
          have hqq : ts.take q = ts := List.take_of_length_le (by omega)
          rw [hqq]
          clear hqq
          have C2 : Hid (∀ w', Below w.heap.size w w' → Calls Tryd.prog 5 #[.string (str (backL ts))] w' fun e w'' => ∃ a c, e = .returned (.tuple #[.slice a us.length c, .agg #[.int .i64 0, .int .i64 0]]) ∧ tkL.list.In w'' (fun g => w'.heap.size ≤ g) us [.slice a us.length c] ∧ Below w'.heap.size w' w'') := fun w' b => by
            have h := scan_any (str (backL ts)) w' (hw.out.below b) (by rw [str_size]; have := K2.out; unfold maxLen; omega)
            rw [str_list, K4.out] at h
            exact h
          go_wp2_with fail
          refine (C2.out w3 B3.out).mono ?_
          rintro e w4 ⟨a2, c2, rfl, l2, b4⟩
          have B4 : Hid (Below w.heap.size w w4) := Below.andThen B3.out b4
          have L4 : Hid (tkL.list.In w4 (fun g => w1.heap.size ≤ g) ts [.slice a1 ts.length c1]) := Lay.below L3.out b4
          have L5 : Hid (tkL.list.In w4 (fun g => w3.heap.size ≤ g) us [.slice a2 us.length c2]) := l2
          have k5 : us.length = ts.length := K5.out
          clear b4 l2 C2 L3
          go_wp2_with fail
          have L6 : Hid (tkL.list.In (w4.alloc (.cells #[.int .i64 0, .int .i64 0] 25)) (fun g => w1.heap.size ≤ g) ts [.slice a1 ts.length c1]) := Lay.alloc L4.out _
          have L7 : Hid (tkL.list.In (w4.alloc (.cells #[.int .i64 0, .int .i64 0] 25)) (fun g => w3.heap.size ≤ g) us [.slice a2 us.length c2]) := Lay.alloc L5.out _
          have B5 : Hid (Below w.heap.size w (w4.alloc (.cells #[.int .i64 0, .int .i64 0] 25))) := B4.out.alloc B4.out.size _
          generalize w4.alloc (.cells #[.int .i64 0, .int .i64 0] 25) = w5 at L6 L7 B5 ⊢
          clear B4 L4 L5 B3
          go_loopw [9] (fun t wr => ∃ q : Nat, q ≤ ts.length ∧ t = .int .i64 q ∧ Below w5.heap.size w5 wr) (fun t _ => ts.length - (intOf t).toNat)
          case atStart => exact ⟨0, Nat.zero_le _, rfl, Below.refl _ _⟩
          case round =>
            obtain ⟨r, hr, rfl, hb⟩ := hrel
            have Bq : Hid (Below w5.heap.size w5 wr) := hb
            clear hb
            by_cases hrt : r < ts.length
            · have hrt' : (r : Int) < ts.length := by omega
              have hx : ts[r]? = some ts[r] := List.getElem?_eq_getElem hrt
              have hy : us[r]? = some us[r] := List.getElem?_eq_getElem (by omega)
              generalize ts[r] = x at hx
              generalize us[r] = y at hy
              obtain ⟨s1, s2, s3⟩ := K6.out r x y hx hy
              obtain ⟨g, o, rfl, _, hg, d0, d1, d2, d3⟩ := tk_at (Lay.below L6.out Bq.out) hx
              obtain ⟨g', o', rfl, _, hg', f0, f1, f2, f3⟩ := tk_at (Lay.below L7.out Bq.out) hy
              rw [← s1] at f1
              rw [← s2] at f2
              rw [← s3] at f3
              clear hx hy s1 s2 s3 d0 f0
              go_wp2_with fail
              go_quiet (fail)
              go_wp2
              go_roundw
              case rel => exact ⟨r + 1, by omega, by go_num, drewN_below Bq.out⟩
              case measure => simp [intOf]; omega
            · have hrt' : ¬ (r : Int) < ts.length := by omega
              go_wp2_with fail
              go_ret
              exact ⟨rfl, Below.andThen B5.out Bq.out⟩
end Go.Proofs.YtlahoehngnebnacDoor
