/-
  types.write and Text: the text of a type.
-/
import Derived.Test.YtpcnlplcpoohgabDoorTypText
namespace Go.Proofs.YtpcnlplcpoohgabDoor
open Go.ChangeShapes Go.WideShapes Go.ChangeAt Go.RowKit
set_option linter.unusedVariables false

set_option maxHeartbeats 4000000 in
set_option maxRecDepth 100000 in
theorem write_any : ∀ n, WriteAt n := by
  intro n
  induction n with
  | zero => intro t; exact Empty.elim t
  | succ n ih =>
    intro t a c B bb bs w hB0 ht hct hok0 hBw hp0 hbs
    have hco : ∀ x ∈ t.2.2, x.count ≤ 2000 := fun x hx => by have := t.count_kid hx; omega
    have hlen : t.2.2.length ≤ 2000 := by have := t.len_lt_count; rw [t.len_eq] at this; omega
    have hcnt : t.count = 1 + (t.2.2.map TT.count).sum := rfl
    have CL : Hid (∀ (bs' : List UInt8) (wx : World), Below B w wx → IsB B bb bs' wx → bs'.length + 100 * (t.2.2.map TT.count).sum ≤ 1000000000 → Calls Tryd.prog 31 #[.pointer (some ⟨bb, 0, none⟩), .slice a t.2.2.length c] wx fun e w' => e = .returned (.tuple #[]) ∧ IsB B bb (bs' ++ catL (t.2.2.map TT.txt)) w' ∧ Below B wx w') :=
      fun bs' wx hb hI hl => writeList_any n ih t.2.2 a c B bb bs' wx hI (ht.lt hb) hco hlen hok0.2 (by have := hb.size; omega) (hp0.on hb) hl
    have hp : Hid (PowB B w) := hp0
    have hB : Hid (IsB B bb bs w) := hB0
    have hT : Hid (t.txt = if t.kind = 2 then [104, 97, 110, 100, 108, 101, 32] ++ Lib.itoa t.r else if t.kind = 4 then [97, 114, 114, 97, 121, 32] ++ Lib.itoa t.r else if t.kind = 3 then [116, 117, 112, 108, 101, 32] ++ Lib.itoa t.r ++ [32, 40] ++ catL (t.2.2.map TT.txt) ++ [41] else [105, 110, 116]) := rfl
    have hr : Hid (-9223372036854775808 ≤ t.r ∧ t.r ≤ 9223372036854775807) := hok0.1
    have hcl : Hid ((catL (t.2.2.map TT.txt)).length ≤ 40 * (t.2.2.map TT.count).sum) := by
      have := cat_take_len hok0.2 t.2.2.length
      rw [List.take_of_length_le (Nat.le_refl _), List.take_of_length_le (by simp)] at this
      exact this
    rw [hcnt] at hbs
    have hbs' : Hid (bs.length + 100 * (1 + (t.2.2.map TT.count).sum) ≤ 1000000000) := hbs
    clear hbs hcnt
    generalize t.txt = res at hT ⊢
    simp only [Tv, TT.len_eq]
    generalize (t.2.2.map TT.count).sum = s at CL hbs' hcl
    generalize catL (t.2.2.map TT.txt) = cl at CL hT hcl
    generalize t.2.2.length = len at CL ⊢
    generalize t.kind = k at hT ⊢
    generalize t.r = r at hT hr ⊢
    clear hct hok0 hp0 hco hlen ih hB0 ht t
    have hzl : (Lib.itoa r).length ≤ 21 := Lib.itoa_length_le r hr.out.1 hr.out.2
    have CI : Hid (∀ wx, Below B w wx → Calls Tryd.prog 27 #[.int .i64 r] wx fun e w' => e = .returned (.string ⟨(Lib.itoa r).toArray⟩) ∧ Below wx.heap.size wx w') :=
      fun wx hb => itoa_any r hr.out wx (hp.out wx hb)
    generalize Lib.itoa r = z at hT CI hzl
    have X0 := Bx.start w k r a len c
    have b0 : Below B w (w.alloc (.cells #[.int .i64 k, .int .i64 r, .slice a len c] 24)) := (Below.refl B w).alloc hBw _
    have I0 : Hid (IsB B bb bs (w.alloc (.cells #[.int .i64 k, .int .i64 r, .slice a len c] 24))) := hB.out.alloc _
    have hne : Hid (w.heap.size ≠ bb) := fun e => by have := bld_lt hB.out; omega
    by_cases h2 : k = 2
    · subst h2
      have R : Hid (res = [104, 97, 110, 100, 108, 101, 32] ++ z) := hT.out.trans (if_pos rfl)
      go_enter Tryd.func25, Tryd.ntmps25
      go_wp2_with fail
      generalize w.alloc (.cells #[.int .i64 2, .int .i64 r, .slice a len c] 24) = w1 at X0 b0 I0 ⊢
      refine (CI.out w1 b0).mono ?_
      rintro e w2 ⟨rfl, b2⟩
      have I2 : Hid (IsB B bb bs w2) := bld_below I0.out b2
      have b02 : Below B w w2 := b0.trans (b2.mono (by have := b0.size; omega))
      have B02 : Hid (Below B w w2) := b02
      clear b0 b2 b02 X0 I0 CI
      go_wp2_with fail
      rw [ByteArray.mk_append_mk [104, 97, 110, 100, 108, 101, 32] z]
      refine (ws_bytes B bb bs ([104, 97, 110, 100, 108, 101, 32] ++ z) w2 I2.out (by have := hbs'.out; rw [List.length_append]; simp only [List.length_cons, List.length_nil]; omega) (by have := B02.out.size; omega)).mono ?_
      rintro e w3 ⟨⟨v, rfl⟩, I3, b3, _⟩
      have I4 : Hid (IsB B bb (bs ++ res) w3) := by rw [R.out]; exact I3
      have B4 : Hid (Below B w w3) := B02.out.trans b3
      clear I3 b3
      go_wp2
      go_end0
      exact ⟨rfl, I4.out, B4.out⟩
    by_cases h4 : k = 4
    · subst h4
      have R : Hid (res = [97, 114, 114, 97, 121, 32] ++ z) := hT.out.trans ((if_neg (by decide)).trans (if_pos rfl))
      go_enter Tryd.func25, Tryd.ntmps25
      go_wp2_with fail
      generalize w.alloc (.cells #[.int .i64 4, .int .i64 r, .slice a len c] 24) = w1 at X0 b0 I0 ⊢
      refine (CI.out w1 b0).mono ?_
      rintro e w2 ⟨rfl, b2⟩
      have I2 : Hid (IsB B bb bs w2) := bld_below I0.out b2
      have b02 : Below B w w2 := b0.trans (b2.mono (by have := b0.size; omega))
      have B02 : Hid (Below B w w2) := b02
      clear b0 b2 b02 X0 I0 CI
      go_wp2_with fail
      rw [ByteArray.mk_append_mk [97, 114, 114, 97, 121, 32] z]
      refine (ws_bytes B bb bs ([97, 114, 114, 97, 121, 32] ++ z) w2 I2.out (by have := hbs'.out; rw [List.length_append]; simp only [List.length_cons, List.length_nil]; omega) (by have := B02.out.size; omega)).mono ?_
      rintro e w3 ⟨⟨v, rfl⟩, I3, b3, _⟩
      have I4 : Hid (IsB B bb (bs ++ res) w3) := by rw [R.out]; exact I3
      have B4 : Hid (Below B w w3) := B02.out.trans b3
      clear I3 b3
      go_wp2
      go_end0
      exact ⟨rfl, I4.out, B4.out⟩
    have g2 : (k == 2) = false := by simpa using h2
    have g4 : (k == 4) = false := by simpa using h4
    by_cases h3 : k = 3
    · subst h3
      clear g2 g4 h2 h4
      have R : Hid (bs ++ res = bs ++ ([116, 117, 112, 108, 101, 32] ++ z ++ [32, 40]) ++ cl ++ [41]) := by
        show _ = _
        rw [hT.out, if_neg (by decide), if_neg (by decide), if_pos rfl]
        simp
      clear hT
      go_enter Tryd.func25, Tryd.ntmps25
      go_wp2_with fail
      generalize w.alloc (.cells #[.int .i64 3, .int .i64 r, .slice a len c] 24) = w1 at X0 b0 I0 ⊢
      refine (CI.out w1 b0).mono ?_
      rintro e w2 ⟨rfl, b2⟩
      have I2 : Hid (IsB B bb bs w2) := bld_below I0.out b2
      have X2 : Hid (Bx w w2 3 r a len c) := X0.below b2
      have b02 : Below B w w2 := b0.trans (b2.mono (by have := b0.size; omega))
      have B02 : Hid (Below B w w2) := b02
      clear b0 b2 b02 X0 I0 CI
      go_wp2_with fail
      rw [ByteArray.mk_append_mk [116, 117, 112, 108, 101, 32] z, ByteArray.mk_append_mk ([116, 117, 112, 108, 101, 32] ++ z) [32, 40]]
      refine (ws_bytes B bb bs ([116, 117, 112, 108, 101, 32] ++ z ++ [32, 40]) w2 I2.out (by have := hbs'.out; rw [List.length_append, List.length_append]; simp only [List.length_cons, List.length_nil]; omega) (by have := B02.out.size; omega)).mono ?_
      rintro e w3 ⟨⟨v, rfl⟩, I3, b3, k3⟩
      have x3 : w3.heap[w.heap.size]? = some (.cells #[.int .i64 3, .int .i64 r, .slice a len c] 24 (0, 0)) := k3 _ _ X2.out.box (fun e => hne.out (Option.some.inj e)) (fun _ _ e => by cases e)
      have e2 : w3.cell? ⟨w.heap.size, 2, none⟩ = some (.slice a len c) := cellOf x3 2 _ rfl
      have I3' : Hid (IsB B bb (bs ++ ([116, 117, 112, 108, 101, 32] ++ z ++ [32, 40])) w3) := I3
      have B3 : Hid (Below B w w3) := B02.out.trans b3
      have hl3 : Hid ((bs ++ ([116, 117, 112, 108, 101, 32] ++ z ++ [32, 40])).length + 100 * s ≤ 1000000000 ∧ (bs ++ ([116, 117, 112, 108, 101, 32] ++ z ++ [32, 40]) ++ cl).length + 1 ≤ 1000000000) := by
        have := hbs'.out
        have := hcl.out
        refine ⟨?_, ?_⟩
        · simp only [List.length_append, List.length_cons, List.length_nil]; omega
        · simp only [List.length_append, List.length_cons, List.length_nil]; omega
      clear I3 b3 k3 x3 X2 I2 B02
      generalize bs ++ ([116, 117, 112, 108, 101, 32] ++ z ++ [32, 40]) = bs3 at I3' hl3 R
      go_wp2_with fail
      refine (CL.out bs3 w3 B3.out I3'.out hl3.out.1).mono ?_
      rintro e w4 ⟨rfl, I4, b4⟩
      have I4' : Hid (IsB B bb (bs3 ++ cl) w4) := I4
      have B4 : Hid (Below B w w4) := B3.out.trans b4
      clear I4 b4 e2 CL I3' B3
      go_wp2_with fail
      refine (ws_bytes B bb (bs3 ++ cl) [41] w4 I4'.out hl3.out.2 (by have := B4.out.size; omega)).mono ?_
      rintro e w5 ⟨⟨v, rfl⟩, I5, b5, _⟩
      have I6 : Hid (IsB B bb (bs ++ res) w5) := by rw [R.out]; exact I5
      have B6 : Hid (Below B w w5) := B4.out.trans b5
      clear I5 b5
      go_wp2
      go_end0
      exact ⟨rfl, I6.out, B6.out⟩
    · have g3 : (k == 3) = false := by simpa using h3
      have R : Hid (res = [105, 110, 116]) := hT.out.trans ((if_neg h2).trans ((if_neg h4).trans (if_neg h3)))
      clear h2 h3 h4 hT
      go_enter Tryd.func25, Tryd.ntmps25
      go_wp2_with fail
      generalize w.alloc (.cells #[.int .i64 k, .int .i64 r, .slice a len c] 24) = w1 at X0 b0 I0 ⊢
      refine (ws_bytes B bb bs [105, 110, 116] w1 I0.out (by have := hbs'.out; simp only [List.length_cons, List.length_nil]; omega) (by have := b0.size; omega)).mono ?_
      rintro e w3 ⟨⟨v, rfl⟩, I3, b3, _⟩
      have I4 : Hid (IsB B bb (bs ++ res) w3) := by rw [R.out]; exact I3
      have B4 : Hid (Below B w w3) := b0.trans b3
      clear I3 b3 b0
      go_wp2
      go_end0
      exact ⟨rfl, I4.out, B4.out⟩
end Go.Proofs.YtpcnlplcpoohgabDoor
