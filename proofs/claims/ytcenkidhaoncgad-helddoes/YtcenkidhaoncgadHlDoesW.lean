/-
  The walk of HeldDoes: called with any number and any steps it returns true and leaves what was there as it was.
-/
import Derived.Test.YtcenkidhaoncgadHlBeg
import Derived.Test.YtcenkidhaoncgadHlReg
import Derived.Deep.DeepCutAuto
import Derived.Deep.CutBlock
namespace Go.Proofs.Ytcenkidhaoncgad
open Go.ChangeShapes Go.WideShapes Go.ChangeAt Go.RowKit
set_option linter.unusedVariables false

theorem Lay.keep0 {α : Type} {L : Lay α} {w w' : World} {O : Nat → Prop} {x : α} {cs : List Value} (h : L.In w O x cs) (b : Below w.heap.size w w') : L.In w' O x cs := Lay.below h b
/-- A slice whose length is at most its capacity. -/
def Lay.listC {α : Type} (A : Lay α) : Lay (List α) where
  size := 1
  In := fun w O l cs => (∃ a c, cs = [.slice a l.length c] ∧ l.length ≤ c) ∧ A.list.In w O l cs
  len := fun h => A.list.len h.2
  keep := fun hb hl h => ⟨h.1, A.list.keep hb hl h.2⟩
theorem Reads.listC {P : Program} {t e : TypeId} {α : Type} {A : Lay α} {n : Nat} (h : P.underlying t = some (.slice e)) (hc : P.cellsOf t = 1) (hA : Reads P e A n) (h0 : 0 < A.size) : Reads P t A.listC (n + 1) :=
  ⟨hc, fun {H enc w base spare held fuel cs x} hf h' => by
    obtain ⟨l, hl⟩ := (Reads.list h hc hA h0).2 hf h'
    refine ⟨l, ?_, hl⟩
    obtain ⟨a, c, e, _⟩ := hl
    refine ⟨a, c, e, ?_⟩
    rcases DataW.trod_slice h h' with ⟨e2, _⟩ | ⟨a2, len, cap, elems, rest, q, _, e2, _, _, hle, _⟩
    · rw [e] at e2
      simp at e2
      simp [e2.2.1]
    · rw [e] at e2
      simp at e2
      omega⟩

abbrev HStep : Type := Int × Int × List Int
def hstepL : Lay HStep := Lay.int.pair (Lay.int.pair Lay.int.listC)

/-- The steps as they lie: of each its two numbers and its list. -/
theorem hstep_at {w : World} {Q : Nat → Prop} {l : List HStep} {a : Option Addr} {N c : Nat} (h : hstepL.list.In w Q l [.slice a N c]) {i : Nat} {x : HStep} (hx : l[i]? = some x) :
    ∃ g o va vc, a = some ⟨g, o, none⟩ ∧ g < w.heap.size ∧ w.cell? ⟨g, o + i * 3, none⟩ = some (.int .i64 x.1) ∧ w.cell? ⟨g, o + i * 3 + 1, none⟩ = some (.int .i64 x.2.1) ∧ w.cell? ⟨g, o + i * 3 + 2, none⟩ = some (.slice va x.2.2.length vc) ∧ intsL.In w Q x.2.2 [.slice va x.2.2.length vc] ∧ x.2.2.length ≤ vc := by
  obtain ⟨g, o, ds, e1, e2, e3, hc, d1, d2, rfl, ⟨rfl, _⟩, d3, d4, rfl, ⟨rfl, _⟩, ⟨va, vc, rfl, hle⟩, hl⟩ := Lay.list_at h hx
  have c0 := hc 0 (by decide)
  have c1 := hc 1 (by decide)
  have c2 := hc 2 (by decide)
  exact ⟨g, o, va, vc, e1, e3, c0, c1, c2, hl, hle⟩

/-- Both objects in one state, apart, and all that they own new. -/
def HBoth (w0 w : World) (b c : Nat) (L : List Bool) : Prop :=
  ∃ O, HeldAt w b L ∧ HoldsAt w c O L ∧ ¬ O b ∧ (∀ x, O x → w0.heap.size ≤ x ∧ x < w.heap.size) ∧ w0.heap.size ≤ b ∧ Below w0.heap.size w0 w

theorem hdoes_great (w : World) (n : Int) (a : Option Addr) (len cap : Nat) (hlen : 300 < (len : Int)) :
    Calls Try.prog 3 #[.int .i64 n, .slice a len cap] w fun e w' => e = .returned (.bool true) ∧ Below w.heap.size w w' := by
  have hd : decide (300 < (len : Int)) = true := by simpa using hlen
  go_enter Try.func3, Try.ntmps3
  go_wp2_with fail
  refine (held_begun _).mono ?_
  rintro e w1 ⟨rfl, b1⟩
  go_wp2
  go_ret
  exact ⟨rfl, b1⟩

set_option maxRecDepth 100000 in
set_option maxHeartbeats 4000000 in
theorem hdoes_any (w : World) (n : Int) (hn : -9223372036854775808 ≤ n ∧ n ≤ 9223372036854775807) (l : List HStep) (a : Option Addr) (len cap : Nat) (hlen : ¬ 300 < (len : Int)) (hll : l.length = len) (hl : hstepL.list.In w (fun _ => True) l [.slice a len cap]) :
    Calls Try.prog 3 #[.int .i64 n, .slice a len cap] w fun e w' => e = .returned (.bool true) ∧ Below w.heap.size w w' := by
  have hd : decide (300 < (len : Int)) = false := by simpa using hlen
  have HL : Hid (hstepL.list.In w (fun _ => True) l [.slice a len cap]) := hl
  have HLL : Hid (l.length = len) := hll
  obtain ⟨i0, hi, hz0, hz1, hz2⟩ := hInfoB
  clear hl hll
  go_enter Try.func3, Try.ntmps3
  go_wp2_with fail
  refine (held_begun _).mono ?_
  rintro e w1 ⟨rfl, b1⟩
  go_wp2_with fail
  refine (held_new w1 n hn).mono ?_
  rintro e w2 ⟨rfl, h2, b2⟩
  go_wp2_with fail
  refine (newHolds_any w2 n).mono ?_
  rintro e w3 ⟨rfl, h3, b3⟩
  have B0 : Hid (HBoth w1 w3 w1.heap.size w2.heap.size (hNew n)) := by
    have z2 := b2.size
    refine ⟨_, h2.below b3, h3, fun h => ?_, fun x hx => ⟨by omega, hx.2⟩, Nat.le_refl _, b2.trans (b3.mono b2.size)⟩
    have := h2.lt
    omega
  have HB1 : Hid (Below w.heap.size w w1) := b1
  obtain ⟨b, hb⟩ : ∃ b, w1.heap.size = b := ⟨_, rfl⟩
  obtain ⟨c, hc⟩ : ∃ c, w2.heap.size = c := ⟨_, rfl⟩
  rw [hb, hc] at B0
  rw [hb, hc]
  clear b1 b2 b3 h2 h3 hb hc hd
  go_wp2_with fail
  go_loopw [7] (fun i wr => ∃ k : Nat, k ≤ len ∧ i = .int .i64 k ∧ ∃ L, HBoth w1 wr b c L) (fun i _ => len - (intOf i).toNat)
  case atStart => exact ⟨0, Nat.zero_le _, rfl, _, B0.out⟩
  case round =>
    clear B0
    obtain ⟨k, hk, rfl, L, O, q1, q2, q3, q4, q5, q6⟩ := hrel
    by_cases hlt : k < len
    · have hxi : l[k]? = some (l[k]'(by rw [HLL.out]; exact hlt)) := List.getElem?_eq_getElem _
      generalize l[k]'(by rw [HLL.out]; exact hlt) = st at hxi
      obtain ⟨g, o, va, vc, rfl, hg, d0, d1, d2, hil, hNc⟩ := hstep_at HL.out hxi
      have hbw := HB1.out.trans (q6.mono HB1.out.size)
      have d0' : wr.cell? ⟨g, o + k * 3, none⟩ = some (.int .i64 st.1) := (hbw.cell (p := ⟨g, o + k * 3, none⟩) hg).trans d0
      have d1' : wr.cell? ⟨g, o + k * 3 + 1, none⟩ = some (.int .i64 st.2.1) := (hbw.cell (p := ⟨g, o + k * 3 + 1, none⟩) hg).trans d1
      have d2' : wr.cell? ⟨g, o + k * 3 + 2, none⟩ = some (.slice va st.2.2.length vc) := (hbw.cell (p := ⟨g, o + k * 3 + 2, none⟩) hg).trans d2
      have hil' : intsL.In wr (fun _ => True) st.2.2 [.slice va st.2.2.length vc] := Lay.keep0 hil hbw
      clear d0 d1 d2 hil hxi
      obtain ⟨x, y, xs⟩ := st
      simp only at d0' d1' d2' hil' hNc
      obtain ⟨N, hN⟩ : ∃ N, xs.length = N := ⟨_, rfl⟩
      rw [hN] at d2' hil' hNc
      have HN : Hid (xs.length = N) := hN
      have HI : Hid (intsL.In wr (fun _ => True) xs [.slice va N vc]) := hil'
      have HNC : Hid (N ≤ vc) := hNc
      have HBW : Hid (Below w.heap.size w wr) := hbw
      have Q1 : Hid (HeldAt wr b L) := q1
      have Q2 : Hid (HoldsAt wr c O L) := q2
      have QZ : Hid (¬ O b ∧ (∀ x, O x → w1.heap.size ≤ x ∧ x < wr.heap.size) ∧ w1.heap.size ≤ b ∧ Below w1.heap.size w1 wr) := ⟨q3, q4, q5, q6⟩
      clear q1 q2 q3 q4 q5 q6 hil' hNc hbw hN
      go_upto_region 10 with fail
      obtain ⟨w4, hw4⟩ : ∃ w4, wr.alloc (.cells #[.int .i64 x, .int .i64 y, .slice va N vc] 30) = w4 := ⟨_, rfl⟩
      obtain ⟨X, hX⟩ : ∃ X, wr.heap.size = X := ⟨_, rfl⟩
      have HQ : Hid (HX w4 b c X O L x y va N vc) := by
        rw [← hw4, ← hX]
        exact ⟨Q1.out.below (bel1 _ _), Q2.out.below (bel1 _ _), blockNew _ _ _⟩
      have hs4 : w4.heap.size = wr.heap.size + 1 := by rw [← hw4]; simp
      have HZ : Hid (¬ O b ∧ (∀ x, O x → w1.heap.size ≤ x ∧ x < w4.heap.size) ∧ w1.heap.size ≤ b ∧ Below w1.heap.size w1 w4) := by
        refine ⟨QZ.out.1, fun x hx => ⟨(QZ.out.2.1 x hx).1, by have := (QZ.out.2.1 x hx).2; omega⟩, QZ.out.2.2.1, ?_⟩
        rw [← hw4]
        exact QZ.out.2.2.2.alloc QZ.out.2.2.2.size _
      have HOX : Hid (¬ O X ∧ X ≠ b ∧ X < w4.heap.size) := ⟨fun h => by have := (QZ.out.2.1 X h).2; omega, by have := Q1.out.lt; omega, by omega⟩
      have HI4 : Hid (intsL.In w4 (fun _ => True) xs [.slice va N vc]) := by rw [← hw4]; exact Lay.alloc HI.out _
      have HB4 : Hid (Below w.heap.size w w4) := by rw [← hw4]; exact HBW.out.alloc HBW.out.size _
      rw [hw4, hX]
      clear hw4 hX hs4 HI HBW Q1 Q2 QZ d0' d1' d2'
      have e0 : w4.cell? ⟨X, 0, none⟩ = some (.int .i64 x) := cellOf HQ.out.box 0 _ rfl
      have e1 : w4.cell? ⟨X, 1, none⟩ = some (.int .i64 y) := cellOf HQ.out.box 1 _ rfl
      have e2 : w4.cell? ⟨X, 2, none⟩ = some (.slice va N vc) := cellOf HQ.out.box 2 _ rfl
      by_cases hN1 : 1000 < (N : Int)
      · have hN1' : decide (1000 < (N : Int)) = true := by simpa using hN1
        go_wp2
        go_ret
        exact ⟨rfl, HB4.out⟩
      have hN1' : decide (1000 < (N : Int)) = false := by simpa using hN1
      by_cases c0 : x = 0
      · have c0' : (x == 0) = true := by simpa using c0
        clear c0
        obtain ⟨a0, cap0, r0, f0, how, -⟩ := HQ.out.holds.cells
        by_cases hL16 : L.length < 16
        · have hL16' : (L.length : Int) < 16 := by omega
          have hown : Hid (w4.ownsRow 0 4 1 (.slice a0 L.length cap0) L.length (L.map Value.bool)) := how
          have PU : Hid (∀ g cap2 w9, w9.ownsRow 0 4 1 (.slice (some ⟨g, 0, none⟩) (L.length + 1) cap2) (L.length + 1) (L.map Value.bool ++ [.bool true]) → (w4.alloc (.cells #[.bool true] 4)).grownBy w9 (Value.slice a0 L.length cap0).ownBlock → ((Value.slice a0 L.length cap0).ownBlock = some g ∨ g = w4.heap.size + 1) → g < w9.heap.size →
              w9.cell? ⟨c, 0, none⟩ = some (.slice a0 L.length cap0) ∧ w9.frozen? ⟨c, 0, none⟩ = false ∧ HoldsAt (w9.setCell ⟨c, 0, none⟩ (.slice (some ⟨g, 0, none⟩) (L.length + 1) cap2)) c (fun x => O x ∨ (w4.heap.size ≤ x ∧ x < w9.heap.size)) (L ++ [true]) ∧ Step O (fun x => O x ∨ (w4.heap.size ≤ x ∧ x < w9.heap.size)) w4 (w9.setCell ⟨c, 0, none⟩ (.slice (some ⟨g, 0, none⟩) (L.length + 1) cap2))) := by
            intro g cap2 w9 q1 q2 q3 q4
            exact HQ.out.holds.push r0 q1 q2 q3 q4
          have EK : Hid (hOpenK L = (L.length : Int) ∧ hOpen L = L ++ [true]) := by show _ ∧ _; simp [hOpenK, hOpen, hL16]
          clear how
          generalize hnn : L.length = nn at r0 hown PU hL16 hL16' EK
          have HNN : Hid (L.length = nn) := hnn
          clear hnn
          go_wp2_with (at_builtin; refine wpList_append_lies _ rfl (.tmp 53) (.tmp 54) 31 rfl 0 4 i0 (.bool false) 1 1 hUnderB hi hz0 hz1 hz2 rfl (by decide) _ _ _ rfl (hown.out.alloc _) ⟨w4.heap.size, 0, none⟩ 1 1 [.bool true] rfl rfl (newsP _ [_] _) (hOneB _) (by decide) (by unfold maxLen; omega) (by omega) (by simp) (w4.heap.size + 1) (by simp) ?_)
          intro g2 cap2 w9 s1 hgrow hat hlt1
          obtain ⟨c9, f9, r9, t9⟩ := PU.out g2 cap2 w9 s1 hgrow hat hlt1
          have hs9 : w4.heap.size + 1 ≤ w9.heap.size := by have := hgrow.size; simpa using this
          have R9 := hid_of r9
          have T9 := hid_of t9
          clear s1 hgrow hat hlt1 hown PU r9 t9 r0 f0
          go_wp2_with fail
          have H5 : HeldAt (w9.setCell ⟨c, 0, none⟩ (.slice (some ⟨g2, 0, none⟩) (nn + 1) cap2)) b L := HQ.out.held.step T9.out HZ.out.1
          have hbl := HQ.out.held.lt
          refine (held_open H5).mono ?_
          rintro e w6 ⟨rfl, h6, s6⟩
          rw [EK.out.1]
          rw [EK.out.2] at h6
          have hz5 : w4.heap.size ≤ w9.heap.size := by omega
          have z6 : w9.heap.size ≤ w6.heap.size := by have := s6.size; simpa using this
          have HQ6 : Hid (HX w6 b c X (fun x => O x ∨ (w4.heap.size ≤ x ∧ x < w9.heap.size)) (L ++ [true]) x y va N vc) := by
            refine ⟨h6, R9.out.step s6 (fun x hx e => ?_), ?_⟩
            · subst e
              rcases hx with h | h
              · exact HZ.out.1 h
              · omega
            · have k5 := T9.out.keep HQ.out.box HOX.out.1
              exact s6.keep k5 (fun e => HOX.out.2.1 e)
          have HZ6 : Hid (¬ (O b ∨ (w4.heap.size ≤ b ∧ b < w9.heap.size)) ∧ (∀ x, (O x ∨ (w4.heap.size ≤ x ∧ x < w9.heap.size)) → w1.heap.size ≤ x ∧ x < w6.heap.size) ∧ w1.heap.size ≤ b ∧ Below w1.heap.size w1 w6) := by
            have hsz1 := HZ.out.2.2.2.size
            refine ⟨fun h => ?_, fun x hx => ?_, HZ.out.2.2.1, ?_⟩
            · rcases h with h | h
              · exact HZ.out.1 h
              · omega
            · rcases hx with h | h
              · have := HZ.out.2.1 x h
                omega
              · omega
            · have k1 := HZ.out.2.2.2.trans (T9.out.below hsz1 (fun x hx => (HZ.out.2.1 x hx).1))
              exact k1.trans (s6.below (by simp; omega) (fun x hx => by have := HZ.out.2.2.1; omega))
          clear h6 s6 H5 R9 T9 c9 f9 HQ HZ e0 e1 e2 HI4
          have HQ := HQ6
          have HZ := HZ6
          clear HQ6 HZ6
          go_upto_region 29 with fail
          obtain ⟨ra, rc, rc0, -, -, -⟩ := HQ.out.holds.cells
          have hcl := HQ.out.holds.lt
          have HS : Hid (∀ wx, Below w6.heap.size w6 wx → wx.cell? ⟨c, 0, none⟩ = some (.slice ra (L ++ [true]).length rc)) := fun wx hx => (hx.cell (p := ⟨c, 0, none⟩) hcl).trans rc0
          have HM : Hid ((hList (L ++ [true])).length ≤ 100000) := by show _ ≤ _; have := hList_len (L ++ [true]); have := HQ.out.held.1; omega
          clear rc0 hcl
          refine Code.wp_mono ?_ (h29_no HQ (show Hid (hHas (L ++ [true]) y = hHas (L ++ [true]) y) from rfl) (show Hid ((L ++ [true]).length = (L ++ [true]).length) from rfl) (show Hid (hList (L ++ [true]) = hList (L ++ [true])) from rfl) HM HS _ _ rfl (Nat.le_of_ble_eq_true (by kernel_rfl)) rfl rfl rfl)
          rintro ee aa wx ⟨rfl, vs, rfl, hv, hb⟩
          simp only [puts, List.range', Act.put, List.setIfInBounds_toArray, List.set_cons_zero, List.set_cons_succ, hv]
          have R : Hid (∃ L, HBoth w1 wx b c L) := ⟨_, (fun x => O x ∨ (w4.heap.size ≤ x ∧ x < w9.heap.size)), (HQ.out.below hb).held, (HQ.out.below hb).holds, HZ.out.1, fun x hx => ⟨(HZ.out.2.1 x hx).1, Nat.lt_of_lt_of_le (HZ.out.2.1 x hx).2 hb.size⟩, HZ.out.2.2.1, HZ.out.2.2.2.trans (hb.mono HZ.out.2.2.2.size)⟩
          clear hb hv HQ HZ HS HM
          go_wp2
          go_roundw
          case rel => exact ⟨k + 1, by omega, by go_num, R.out⟩
          case measure => simp [intOf]; omega
        · have hL16' : ¬ (L.length : Int) < 16 := by omega
          have EK : Hid (hOpenK L = -1 ∧ hOpen L = L) := by show _ ∧ _; simp [hOpenK, hOpen, hL16]
          clear how
          generalize hnn : L.length = nn at r0 hL16 hL16'
          clear hnn
          go_wp2_with fail
          refine (held_open HQ.out.held).mono ?_
          rintro e w6 ⟨rfl, h6, s6⟩
          rw [EK.out.1]
          rw [EK.out.2] at h6
          have hbl := HQ.out.held.lt
          have z6 : w4.heap.size ≤ w6.heap.size := s6.size
          have HQ6 : Hid (HX w6 b c X O L x y va N vc) := ⟨h6, HQ.out.holds.step s6 (fun x hx e => by subst e; exact HZ.out.1 hx), s6.keep HQ.out.box (fun e => HOX.out.2.1 e)⟩
          have HZ6 : Hid (¬ O b ∧ (∀ x, O x → w1.heap.size ≤ x ∧ x < w6.heap.size) ∧ w1.heap.size ≤ b ∧ Below w1.heap.size w1 w6) :=
            ⟨HZ.out.1, fun x hx => ⟨(HZ.out.2.1 x hx).1, Nat.lt_of_lt_of_le (HZ.out.2.1 x hx).2 z6⟩, HZ.out.2.2.1, HZ.out.2.2.2.trans (s6.below HZ.out.2.2.2.size (fun x hx => by have := HZ.out.2.2.1; omega))⟩
          clear h6 s6 HQ HZ e0 e1 e2 HI4 r0 f0
          have HQ := HQ6
          have HZ := HZ6
          clear HQ6 HZ6
          go_upto_region 29 with fail
          obtain ⟨ra, rc, rc0, -, -, -⟩ := HQ.out.holds.cells
          have hcl := HQ.out.holds.lt
          have HS : Hid (∀ wx, Below w6.heap.size w6 wx → wx.cell? ⟨c, 0, none⟩ = some (.slice ra (L).length rc)) := fun wx hx => (hx.cell (p := ⟨c, 0, none⟩) hcl).trans rc0
          have HM : Hid ((hList (L)).length ≤ 100000) := by show _ ≤ _; have := hList_len (L); have := HQ.out.held.1; omega
          clear rc0 hcl
          refine Code.wp_mono ?_ (h29_no HQ (show Hid (hHas (L) y = hHas (L) y) from rfl) (show Hid ((L).length = (L).length) from rfl) (show Hid (hList (L) = hList (L)) from rfl) HM HS _ _ rfl (Nat.le_of_ble_eq_true (by kernel_rfl)) rfl rfl rfl)
          rintro ee aa wx ⟨rfl, vs, rfl, hv, hb⟩
          simp only [puts, List.range', Act.put, List.setIfInBounds_toArray, List.set_cons_zero, List.set_cons_succ, hv]
          have R : Hid (∃ L, HBoth w1 wx b c L) := ⟨_, O, (HQ.out.below hb).held, (HQ.out.below hb).holds, HZ.out.1, fun x hx => ⟨(HZ.out.2.1 x hx).1, Nat.lt_of_lt_of_le (HZ.out.2.1 x hx).2 hb.size⟩, HZ.out.2.2.1, HZ.out.2.2.2.trans (hb.mono HZ.out.2.2.2.size)⟩
          clear hb hv HQ HZ HS HM
          go_wp2
          go_roundw
          case rel => exact ⟨k + 1, by omega, by go_num, R.out⟩
          case measure => simp [intOf]; omega
      have c0' : (x == 0) = false := by simpa using c0
      clear c0
      by_cases c1 : x = 1
      · have c1' : (x == 1) = true := by simpa using c1
        clear c1
        have hL1 : L.length ≤ 100000 := Nat.le_trans HQ.out.held.1 (by decide)
        have C : Hid (Calls Try.prog 8 #[.pointer (some ⟨c, 0, none⟩), .int .i64 y] w4 fun e w' => e = .returned (.bool (hHas L y)) ∧ w' = w4) := holds_has y hL1 HQ.out.holds
        cases hh : hHas L y with
        | false =>
          rw [hh] at C
          have ES : Hid (hShut L y = L) := by show _ = _; simp [hShut, hh]
          have HH : Hid (hHas L y = false) := hh
          clear hh
          go_wp2_with (go_at_call 8; refine (C.out).mono ?_; rintro e w' ⟨rfl, hw⟩; have hw := hw.symm; subst hw)
          refine (held_shut y HQ.out.held).mono ?_
          rintro e w6 ⟨rfl, h6, s6⟩
          rw [HH.out]
          rw [ES.out] at h6
          have hbl := HQ.out.held.lt
          have z6 : w4.heap.size ≤ w6.heap.size := s6.size
          have HQ6 : Hid (HX w6 b c X O L x y va N vc) := ⟨h6, HQ.out.holds.step s6 (fun x hx e => by subst e; exact HZ.out.1 hx), s6.keep HQ.out.box (fun e => HOX.out.2.1 e)⟩
          have HZ6 : Hid (¬ O b ∧ (∀ x, O x → w1.heap.size ≤ x ∧ x < w6.heap.size) ∧ w1.heap.size ≤ b ∧ Below w1.heap.size w1 w6) :=
            ⟨HZ.out.1, fun x hx => ⟨(HZ.out.2.1 x hx).1, Nat.lt_of_lt_of_le (HZ.out.2.1 x hx).2 z6⟩, HZ.out.2.2.1, HZ.out.2.2.2.trans (s6.below HZ.out.2.2.2.size (fun x hx => by have := HZ.out.2.2.1; omega))⟩
          clear h6 s6 HQ HZ e0 e1 e2 HI4 C
          have HQ := HQ6
          have HZ := HZ6
          clear HQ6 HZ6
          go_upto_region 29 with fail
          obtain ⟨ra, rc, rc0, -, -, -⟩ := HQ.out.holds.cells
          have hcl := HQ.out.holds.lt
          have HS : Hid (∀ wx, Below w6.heap.size w6 wx → wx.cell? ⟨c, 0, none⟩ = some (.slice ra (L).length rc)) := fun wx hx => (hx.cell (p := ⟨c, 0, none⟩) hcl).trans rc0
          have HM : Hid ((hList (L)).length ≤ 100000) := by show _ ≤ _; have := hList_len (L); have := HQ.out.held.1; omega
          clear rc0 hcl
          refine Code.wp_mono ?_ (h29_no HQ (show Hid (hHas (L) y = hHas (L) y) from rfl) (show Hid ((L).length = (L).length) from rfl) (show Hid (hList (L) = hList (L)) from rfl) HM HS _ _ rfl (Nat.le_of_ble_eq_true (by kernel_rfl)) rfl rfl rfl)
          rintro ee aa wx ⟨rfl, vs, rfl, hv, hb⟩
          simp only [puts, List.range', Act.put, List.setIfInBounds_toArray, List.set_cons_zero, List.set_cons_succ, hv]
          have R : Hid (∃ L, HBoth w1 wx b c L) := ⟨_, O, (HQ.out.below hb).held, (HQ.out.below hb).holds, HZ.out.1, fun x hx => ⟨(HZ.out.2.1 x hx).1, Nat.lt_of_lt_of_le (HZ.out.2.1 x hx).2 hb.size⟩, HZ.out.2.2.1, HZ.out.2.2.2.trans (hb.mono HZ.out.2.2.2.size)⟩
          clear hb hv HQ HZ HS HM
          go_wp2
          go_roundw
          case rel => exact ⟨k + 1, by omega, by go_num, R.out⟩
          case measure => simp [intOf]; omega
        | true =>
          obtain ⟨j, rfl, hj, hm⟩ := hHas_true hh
          rw [hh] at C
          have ES : Hid (hShut L (j : Int) = L.set j false) := by show _ = _; simp [hShut, hh]
          have HH : Hid (hHas L (j : Int) = true) := hh
          obtain ⟨a0, cap0, r0, f0, -, hcs⟩ := HQ.out.holds.cells
          obtain ⟨g2, rfl, hg2, cj, fj, hset⟩ := hcs j hj
          have S5 : Hid (HoldsAt (w4.setCell ⟨g2, j, none⟩ (.bool false)) c O (L.set j false)) := hset false
          have T5 : Hid (Step O O w4 (w4.setCell ⟨g2, j, none⟩ (.bool false))) := (Step.refl O w4).setCell (p := ⟨g2, j, none⟩) hg2 _
          have hj' : (j : Int) < L.length := by omega
          generalize L.getD j false = qq at cj
          generalize hnn : L.length = nn at r0 hj hj'
          clear hh hm hset hcs hnn
          go_wp2_with (go_at_call 8; refine (C.out).mono ?_; rintro e w' ⟨rfl, hw⟩; have hw := hw.symm; subst hw)
          go_upto_region 23 with fail
          go_region
          have H5 : HeldAt (w4.setCell ⟨g2, j, none⟩ (.bool false)).drew b L := HQ.out.held.step T5.out.drew HZ.out.1
          have G5 : Hid (HoldsAt (w4.setCell ⟨g2, j, none⟩ (.bool false)).drew c O (L.set j false)) := S5.out
          have K5 : Hid ((w4.setCell ⟨g2, j, none⟩ (.bool false)).drew.heap[X]? = some (.cells #[.int .i64 x, .int .i64 (j : Int), .slice va N vc] 30 (0, 0))) := T5.out.drew.keep HQ.out.box HOX.out.1
          have B5 : Hid (Step O O w4 (w4.setCell ⟨g2, j, none⟩ (.bool false)).drew) := T5.out.drew
          clear S5 T5 cj fj r0 f0 C
          generalize (w4.setCell ⟨g2, j, none⟩ (.bool false)).drew = w5 at H5 G5 K5 B5 ⊢
          have e15 : w5.cell? ⟨X, 1, none⟩ = some (.int .i64 (j : Int)) := cellOf K5.out 1 _ rfl
          go_wp2_with fail
          refine (held_shut (j : Int) H5).mono ?_
          rintro e w6 ⟨rfl, h6, s6⟩
          rw [HH.out]
          rw [ES.out] at h6
          have z6 : w4.heap.size ≤ w6.heap.size := Nat.le_trans B5.out.size s6.size
          have HQ6 : Hid (HX w6 b c X O (L.set j false) x j va N vc) := ⟨h6, G5.out.step s6 (fun x hx e => by subst e; exact HZ.out.1 hx), s6.keep K5.out (fun e => HOX.out.2.1 e)⟩
          have HZ6 : Hid (¬ O b ∧ (∀ x, O x → w1.heap.size ≤ x ∧ x < w6.heap.size) ∧ w1.heap.size ≤ b ∧ Below w1.heap.size w1 w6) := by
            refine ⟨HZ.out.1, fun x hx => ⟨(HZ.out.2.1 x hx).1, Nat.lt_of_lt_of_le (HZ.out.2.1 x hx).2 z6⟩, HZ.out.2.2.1, ?_⟩
            have k1 := HZ.out.2.2.2.trans (B5.out.below HZ.out.2.2.2.size (fun x hx => (HZ.out.2.1 x hx).1))
            exact k1.trans (s6.below k1.size (fun x hx => by have := HZ.out.2.2.1; omega))
          clear h6 s6 HQ HZ e0 e1 e2 e15 HI4 H5 G5 K5 B5
          have HQ := HQ6
          have HZ := HZ6
          clear HQ6 HZ6
          go_upto_region 29 with fail
          obtain ⟨ra, rc, rc0, -, -, -⟩ := HQ.out.holds.cells
          have hcl := HQ.out.holds.lt
          have HS : Hid (∀ wx, Below w6.heap.size w6 wx → wx.cell? ⟨c, 0, none⟩ = some (.slice ra (L.set j false).length rc)) := fun wx hx => (hx.cell (p := ⟨c, 0, none⟩) hcl).trans rc0
          have HM : Hid ((hList (L.set j false)).length ≤ 100000) := by show _ ≤ _; have := hList_len (L.set j false); have := HQ.out.held.1; omega
          clear rc0 hcl
          refine Code.wp_mono ?_ (h29_no HQ (show Hid (hHas (L.set j false) j = hHas (L.set j false) j) from rfl) (show Hid ((L.set j false).length = (L.set j false).length) from rfl) (show Hid (hList (L.set j false) = hList (L.set j false)) from rfl) HM HS _ _ rfl (Nat.le_of_ble_eq_true (by kernel_rfl)) rfl rfl rfl)
          rintro ee aa wx ⟨rfl, vs, rfl, hv, hb⟩
          simp only [puts, List.range', Act.put, List.setIfInBounds_toArray, List.set_cons_zero, List.set_cons_succ, hv]
          have R : Hid (∃ L, HBoth w1 wx b c L) := ⟨_, O, (HQ.out.below hb).held, (HQ.out.below hb).holds, HZ.out.1, fun x hx => ⟨(HZ.out.2.1 x hx).1, Nat.lt_of_lt_of_le (HZ.out.2.1 x hx).2 hb.size⟩, HZ.out.2.2.1, HZ.out.2.2.2.trans (hb.mono HZ.out.2.2.2.size)⟩
          clear hb hv HQ HZ HS HM
          go_wp2
          go_roundw
          case rel => exact ⟨k + 1, by omega, by go_num, R.out⟩
          case measure => simp [intOf]; omega
      have c1' : (x == 1) = false := by simpa using c1
      clear c1
      by_cases c2 : x = 2
      · have c2' : (x == 2) = true := by simpa using c2
        clear c2
        have HN2 : Hid (N ≤ 100000) := by show _ ≤ _; omega
        go_upto_region 27 with fail
        refine Code.wp_mono ?_ (h27_no HQ HN HN2 HNC HI4 (show Hid (hPass L [] xs = hPass L [] xs) from rfl) _ _ rfl (Nat.le_of_ble_eq_true (by kernel_rfl)) rfl rfl rfl)
        rintro ee aa w6 ⟨rfl, vs, rfl, hv, hb⟩
        simp only [puts, List.range', Act.put, List.setIfInBounds_toArray, List.set_cons_zero, List.set_cons_succ, hv]
        have HQ6 : Hid (HX w6 b c X O L x y va N vc) := HQ.out.below hb
        have HZ6 : Hid (¬ O b ∧ (∀ x, O x → w1.heap.size ≤ x ∧ x < w6.heap.size) ∧ w1.heap.size ≤ b ∧ Below w1.heap.size w1 w6) :=
          ⟨HZ.out.1, fun x hx => ⟨(HZ.out.2.1 x hx).1, Nat.lt_of_lt_of_le (HZ.out.2.1 x hx).2 hb.size⟩, HZ.out.2.2.1, HZ.out.2.2.2.trans (hb.mono HZ.out.2.2.2.size)⟩
        clear hb hv HQ HZ e0 e1 e2 HI4 HN2
        have HQ := HQ6
        have HZ := HZ6
        clear HQ6 HZ6
        go_upto_region 29 with fail
        obtain ⟨ra, rc, rc0, -, -, -⟩ := HQ.out.holds.cells
        have hcl := HQ.out.holds.lt
        have HS : Hid (∀ wx, Below w6.heap.size w6 wx → wx.cell? ⟨c, 0, none⟩ = some (.slice ra (L).length rc)) := fun wx hx => (hx.cell (p := ⟨c, 0, none⟩) hcl).trans rc0
        have HM : Hid ((hList (L)).length ≤ 100000) := by show _ ≤ _; have := hList_len (L); have := HQ.out.held.1; omega
        clear rc0 hcl
        refine Code.wp_mono ?_ (h29_no HQ (show Hid (hHas (L) y = hHas (L) y) from rfl) (show Hid ((L).length = (L).length) from rfl) (show Hid (hList (L) = hList (L)) from rfl) HM HS _ _ rfl (Nat.le_of_ble_eq_true (by kernel_rfl)) rfl rfl rfl)
        rintro ee aa wx ⟨rfl, vs, rfl, hv, hb⟩
        simp only [puts, List.range', Act.put, List.setIfInBounds_toArray, List.set_cons_zero, List.set_cons_succ, hv]
        have R : Hid (∃ L, HBoth w1 wx b c L) := ⟨_, O, (HQ.out.below hb).held, (HQ.out.below hb).holds, HZ.out.1, fun x hx => ⟨(HZ.out.2.1 x hx).1, Nat.lt_of_lt_of_le (HZ.out.2.1 x hx).2 hb.size⟩, HZ.out.2.2.1, HZ.out.2.2.2.trans (hb.mono HZ.out.2.2.2.size)⟩
        clear hb hv HQ HZ HS HM
        go_wp2
        go_roundw
        case rel => exact ⟨k + 1, by omega, by go_num, R.out⟩
        case measure => simp [intOf]; omega
      have c2' : (x == 2) = false := by simpa using c2
      clear c2
      go_upto_region 29 with fail
      clear e0 e1 e2 HI4
      obtain ⟨ra, rc, rc0, -, -, -⟩ := HQ.out.holds.cells
      have hcl := HQ.out.holds.lt
      have HS : Hid (∀ wx, Below w4.heap.size w4 wx → wx.cell? ⟨c, 0, none⟩ = some (.slice ra (L).length rc)) := fun wx hx => (hx.cell (p := ⟨c, 0, none⟩) hcl).trans rc0
      have HM : Hid ((hList (L)).length ≤ 100000) := by show _ ≤ _; have := hList_len (L); have := HQ.out.held.1; omega
      clear rc0 hcl
      refine Code.wp_mono ?_ (h29_no HQ (show Hid (hHas (L) y = hHas (L) y) from rfl) (show Hid ((L).length = (L).length) from rfl) (show Hid (hList (L) = hList (L)) from rfl) HM HS _ _ rfl (Nat.le_of_ble_eq_true (by kernel_rfl)) rfl rfl rfl)
      rintro ee aa wx ⟨rfl, vs, rfl, hv, hb⟩
      simp only [puts, List.range', Act.put, List.setIfInBounds_toArray, List.set_cons_zero, List.set_cons_succ, hv]
      have R : Hid (∃ L, HBoth w1 wx b c L) := ⟨_, O, (HQ.out.below hb).held, (HQ.out.below hb).holds, HZ.out.1, fun x hx => ⟨(HZ.out.2.1 x hx).1, Nat.lt_of_lt_of_le (HZ.out.2.1 x hx).2 hb.size⟩, HZ.out.2.2.1, HZ.out.2.2.2.trans (hb.mono HZ.out.2.2.2.size)⟩
      clear hb hv HQ HZ HS HM
      go_wp2
      go_roundw
      case rel => exact ⟨k + 1, by omega, by go_num, R.out⟩
      case measure => simp [intOf]; omega
    · have hlt' : ¬ (k : Int) < len := by omega
      have HBW : Below w.heap.size w wr := HB1.out.trans (q6.mono HB1.out.size)
      clear HL HLL q2 q3 q4 q5 q6
      go_wp2_with fail
      refine (held_list q1).mono ?_
      rintro e w5 ⟨a5, c5, rfl, i5, b5⟩
      have h5 := q1.below b5
      have B5 : Below w.heap.size w w5 := HBW.trans (b5.mono HBW.size)
      obtain ⟨M, hM⟩ : ∃ M, (hList L).length = M := ⟨_, rfl⟩
      have hML : M ≤ L.length := by rw [← hM]; exact hList_len L
      have hL16 := q1.1
      rw [hM] at i5
      rw [hM]
      clear q1 b5 HBW
      go_wp2_with fail
      refine (held_pass hM (by omega) i5 h5).mono ?_
      rw [hPass_list]
      rintro e w6 ⟨rfl, b6⟩
      have h6 := h5.below b6
      have B6 : Below w.heap.size w w6 := B5.trans (b6.mono B5.size)
      clear h5 b6 B5 i5
      go_wp2_with fail
      refine (held_list h6).mono ?_
      rintro e w7 ⟨a7, c7, rfl, i7, b7⟩
      have h7 := h6.below b7
      have B7 : Below w.heap.size w w7 := B6.trans (b7.mono B6.size)
      rw [hM]
      clear h6 b7 B6 i7 hM
      go_wp2_with fail
      refine (held_len h7).mono ?_
      rintro e w8 ⟨rfl, hw⟩
      have hw := hw.symm
      subst hw
      have hle : decide ((M : Int) ≤ (L.length : Int)) = true := by simp; omega
      clear h7
      generalize L.length = nn at hle hML hL16
      go_wp2
      go_ret
      exact ⟨rfl, B7⟩

end Go.Proofs.Ytcenkidhaoncgad
