/-
  copyholdref.TypeText and typesText: the text of a type.
-/
import Derived.Test.YtpcnlplcpoohgabDoorTypText3
import Derived.Deep.RegionWith
namespace Go.Proofs.YtpcnlplcpoohgabDoor
open Go.ChangeShapes Go.WideShapes Go.ChangeAt Go.RowKit
set_option linter.unusedVariables false

set_option maxHeartbeats 4000000 in
set_option maxRecDepth 100000 in
theorem typesText_any (n : Nat) (IH0 : TextAt 15 n) (l : List (TT n)) (a : Option Addr) (c : Nat) (w : World) (hl0 : LIn w All l a) (hco0 : ∀ x ∈ l, x.count ≤ 2000) (hlen : l.length ≤ 2000) (hok0 : ∀ x ∈ l, x.ok) (hp0 : Pows w) (hbs0 : (l.map TT.count).sum ≤ 2000) :
    Calls Tryd.prog 28 #[.slice a l.length c] w fun e w' => e = .returned (.string ⟨([40] ++ catL (l.map TT.txt) ++ [41]).toArray⟩) ∧ Below w.heap.size w w' := by
  have IH : Hid (TextAt 15 n) := IH0
  have hl : Hid (LIn w All l a) := hl0
  have hco : Hid (∀ x ∈ l, x.count ≤ 2000) := hco0
  have hok : Hid (∀ x ∈ l, x.ok) := hok0
  have hp : Hid (Pows w) := hp0
  have hbs : Hid ((l.map TT.count).sum ≤ 2000) := hbs0
  clear IH0 hl0 hco0 hok0 hp0 hbs0
  go_enter Tryd.func28, Tryd.ntmps28
  go_wp2_with fail
  go_loopw [3, 4] (fun v i wr => ∃ q : Nat, q ≤ l.length ∧ i = .int .i64 q ∧ v = .string ⟨([40] ++ catL ((l.take q).map TT.txt)).toArray⟩ ∧ Below w.heap.size w wr) (fun _ i _ => l.length - (intOf i).toNat)
  case atStart => exact ⟨0, Nat.zero_le _, rfl, rfl, Below.refl _ _⟩
  case round =>
    obtain ⟨q, hq, rfl, rfl, hb⟩ := hrel
    have Bl : Hid (Below w.heap.size w wr) := hb
    clear hb
    have hlq := cat_take_len hok.out q
    have hsl := sum_take_le (l.map TT.count) q
    have hbs' := hbs.out
    have hcl : (catL ((l.take q).map TT.txt)).length ≤ 80000 := by omega
    by_cases hlt : q < l.length
    · have hx : l[q]? = some l[q] := List.getElem?_eq_getElem hlt
      generalize l[q] = x at hx
      obtain ⟨g, o, a', c', rfl, _, d0, d1, d2, hk⟩ := LIn.at (hl.out.below Bl.out) hx
      have hmem := List.mem_of_getElem? hx
      have hS : catL ((l.take (q + 1)).map TT.txt) = catL ((l.take q).map TT.txt) ++ (if q = 0 then [] else [44, 32]) ++ x.txt := by
        rw [List.take_add_one, hx, Option.toList_some, List.map_append, List.map_cons, List.map_nil, catL_snoc]
        rw [List.length_map, List.length_take, Nat.min_eq_left (by omega)]
      have S : Hid (catL ((l.take (q + 1)).map TT.txt) = catL ((l.take q).map TT.txt) ++ (if q = 0 then [] else [44, 32]) ++ x.txt) := hS
      have C : Hid (Calls Tryd.prog 15 #[Tv x a' c'] wr fun e w' => e = .returned (.string ⟨x.txt.toArray⟩) ∧ Below wr.heap.size wr w') :=
        IH.out x a' c' wr hk (hco.out x hmem) (hok.out x hmem) (hp.out.below Bl.out)
      have hxl : x.txt.length ≤ 80000 := by have := TT.txt_len (hok.out x hmem); have := hco.out x hmem; omega
      have hk0 : (0 : Int) ≤ q := by omega
      have hk1 : (q : Int) < l.length := by omega
      have hk2 : (q : Int) < 2000 := by omega
      clear hS hlq hsl hbs' hk hx hmem
      simp only [Tv] at C
      generalize x.kind = kx at C d0
      generalize x.r = rx at C d1
      generalize x.len = lx at C d2
      generalize x.txt = tx at C S hxl
      generalize catL ((l.take q).map TT.txt) = cq at S hcl ⊢
      by_cases hz : q = 0
      · have hz' : ¬ (0 : Int) < q := by omega
        have R : Hid (catL ((l.take (q + 1)).map TT.txt) = cq ++ tx) := by rw [S.out, if_pos hz]; show _ = _; simp
        clear hz S
        go_wp2_with fail
        refine C.out.mono ?_
        rintro e w2 ⟨rfl, b2⟩
        have B3 : Hid (Below w.heap.size w w2) := Bl.out.trans (b2.mono Bl.out.size)
        clear b2 C
        go_wp2
        go_roundw
        case rel => exact ⟨q + 1, by omega, by go_num, by rw [ByteArray.mk_append_mk, R.out]; rfl, B3.out⟩
        case measure => simp [intOf]; omega
      · have hz' : (0 : Int) < q := by omega
        have R : Hid (catL ((l.take (q + 1)).map TT.txt) = cq ++ [44, 32] ++ tx) := by show _ = _; rw [S.out, if_neg hz]
        clear hz S
        go_wp2_with fail
        refine C.out.mono ?_
        rintro e w2 ⟨rfl, b2⟩
        have B3 : Hid (Below w.heap.size w w2) := Bl.out.trans (b2.mono Bl.out.size)
        clear b2 C
        go_wp2
        go_roundw
        case rel => exact ⟨q + 1, by omega, by go_num, by rw [ByteArray.mk_append_mk (40 :: cq) [44, 32], ByteArray.mk_append_mk, R.out]; simp, B3.out⟩
        case measure => simp [intOf]; omega
    · have hk1 : ¬ (q : Int) < l.length := by omega
      have htt : l.take q = l := List.take_of_length_le (by omega)
      rw [htt] at hcl ⊢
      clear hlq hsl hbs' htt
      generalize hcq : catL (l.map TT.txt) = cq at hcl ⊢
      have E : Hid (catL (l.map TT.txt) = cq) := hcq
      clear hcq
      go_wp2
      go_ret
      exact ⟨by show Ending.returned (.string (⟨(40 :: cq).toArray⟩ ++ ⟨#[41]⟩)) = _; rw [ByteArray.mk_append_mk (40 :: cq) [41], E.out]; rfl, Bl.out⟩

set_option maxHeartbeats 8000000 in
set_option maxRecDepth 100000 in
theorem typeText_any : ∀ n, TextAt 15 n := by
  intro n
  induction n with
  | zero => intro t; exact Empty.elim t
  | succ n ih =>
    intro t a c w ht hct hok0 hp0
    have hco : ∀ x ∈ t.2.2, x.count ≤ 2000 := fun x hx => by have := t.count_kid hx; omega
    have hlen : t.2.2.length ≤ 2000 := by have := t.len_lt_count; rw [t.len_eq] at this; omega
    have hcnt : t.count = 1 + (t.2.2.map TT.count).sum := rfl
    have CL : Hid (∀ wx, Below w.heap.size w wx → Calls Tryd.prog 28 #[.slice a t.2.2.length c] wx fun e w' => e = .returned (.string ⟨([40] ++ catL (t.2.2.map TT.txt) ++ [41]).toArray⟩) ∧ Below wx.heap.size wx w') :=
      fun wx hb => typesText_any n ih t.2.2 a c wx (ht.below hb) hco hlen hok0.2 (hp0.below hb) (by omega)
    have hr : Hid (-9223372036854775808 ≤ t.r ∧ t.r ≤ 9223372036854775807) := hok0.1
    have hT : Hid (t.txt = if t.kind = 2 then [104, 97, 110, 100, 108, 101, 32] ++ Lib.itoa t.r else if t.kind = 4 then [97, 114, 114, 97, 121, 32] ++ Lib.itoa t.r else if t.kind = 3 then [116, 117, 112, 108, 101, 32] ++ Lib.itoa t.r ++ [32, 40] ++ catL (t.2.2.map TT.txt) ++ [41] else [105, 110, 116]) := rfl
    have hcl : (catL (t.2.2.map TT.txt)).length ≤ 80000 := by
      have := cat_take_len hok0.2 t.2.2.length
      rw [List.take_of_length_le (Nat.le_refl _), List.take_of_length_le (by simp)] at this
      omega
    have hzl : (Lib.itoa t.r).length ≤ 21 := Lib.itoa_length_le t.r hr.out.1 hr.out.2
    have CI : Hid (∀ wx, Below w.heap.size w wx → Calls Tryd.prog 27 #[.int .i64 t.r] wx fun e w' => e = .returned (.string ⟨(Lib.itoa t.r).toArray⟩) ∧ Below wx.heap.size wx w') :=
      fun wx hb => itoa_any t.r hr.out wx (hp0.below hb)
    generalize t.txt = res at hT ⊢
    simp only [Tv, TT.len_eq]
    generalize catL (t.2.2.map TT.txt) = cl at CL hT hcl
    generalize t.2.2.length = len at CL ⊢
    generalize t.kind = k at hT ⊢
    generalize Lib.itoa t.r = z at hT CI hzl
    generalize t.r = r at CI ⊢
    clear hct hok0 hp0 hco hlen ih ht hcnt hr t
    have X0 := Bx.start w k r a len c
    by_cases h2 : k = 2
    · subst h2
      have R : Hid (res = [104, 97, 110, 100, 108, 101, 32] ++ z) := hT.out.trans (if_pos rfl)
      clear hT
      go_enter Tryd.func15, Tryd.ntmps15
      go_wp2_with fail
      generalize w.alloc (.cells #[.int .i64 2, .int .i64 r, .slice a len c] 24) = w1 at X0 ⊢
      refine (CI.out w1 X0.bel).mono ?_
      rintro e w2 ⟨rfl, b2⟩
      have X2 : Hid (Bx w w2 2 r a len c) := X0.below b2
      clear b2 X0 CI
      go_wp2
      go_ret
      exact ⟨by rw [R.out, ← ByteArray.mk_append_mk]; rfl, X2.out.bel⟩
    by_cases h4 : k = 4
    · subst h4
      have R : Hid (res = [97, 114, 114, 97, 121, 32] ++ z) := hT.out.trans ((if_neg (by decide)).trans (if_pos rfl))
      clear hT
      go_enter Tryd.func15, Tryd.ntmps15
      go_wp2_with fail
      generalize w.alloc (.cells #[.int .i64 4, .int .i64 r, .slice a len c] 24) = w1 at X0 ⊢
      refine (CI.out w1 X0.bel).mono ?_
      rintro e w2 ⟨rfl, b2⟩
      have X2 : Hid (Bx w w2 4 r a len c) := X0.below b2
      clear b2 X0 CI
      go_wp2
      go_ret
      exact ⟨by rw [R.out, ← ByteArray.mk_append_mk]; rfl, X2.out.bel⟩
    have g2 : (k == 2) = false := by simpa using h2
    have g4 : (k == 4) = false := by simpa using h4
    by_cases h3 : k = 3
    · subst h3
      clear g2 g4 h2 h4
      have R : Hid (res = [116, 117, 112, 108, 101, 32] ++ z ++ [32] ++ ([40] ++ cl ++ [41])) := by
        show _ = _
        rw [hT.out, if_neg (by decide), if_neg (by decide), if_pos rfl]
        simp
      clear hT
      have hql : ([40] ++ cl ++ [41]).length ≤ 80002 := by simp; omega
      generalize [40] ++ cl ++ [41] = cq at CL R hql
      clear hcl
      go_enter Tryd.func15, Tryd.ntmps15
      go_wp2_with fail
      generalize w.alloc (.cells #[.int .i64 3, .int .i64 r, .slice a len c] 24) = w1 at X0 ⊢
      have X1 : Hid (Bx w w1 3 r a len c) := X0
      have e1 : w1.cell? ⟨w.heap.size, 1, none⟩ = some (.int .i64 r) := cellOf X0.box 1 _ rfl
      have e2 : w1.cell? ⟨w.heap.size, 2, none⟩ = some (.slice a len c) := cellOf X0.box 2 _ rfl
      have CI' : Hid (∀ wx, Bx w wx 3 r a len c → Calls Tryd.prog 27 #[.int .i64 r] wx fun e w' => e = .returned (.string ⟨z.toArray⟩) ∧ Bx w w' 3 r a len c) :=
        fun wx hX => (CI.out wx hX.bel).mono (fun e w' h => ⟨h.1, hX.below h.2⟩)
      have CL' : Hid (∀ wx, Bx w wx 3 r a len c → Calls Tryd.prog 28 #[.slice a len c] wx fun e w' => e = .returned (.string ⟨cq.toArray⟩) ∧ Bx w w' 3 r a len c) :=
        fun wx hX => (CL.out wx hX.bel).mono (fun e w' h => ⟨h.1, hX.below h.2⟩)
      clear X0 CI CL
      go_region_with (first
        | (go_at_call 27; refine (CI'.out _ (by first | exact X1.out.drewN 1 | exact XL.out)).mono ?_; rintro e w5 ⟨rfl, x5⟩; have f2 := cellOf x5.box 2 _ rfl; have XI : Hid (Bx w w5 3 r a len c) := x5; clear x5)
        | (go_at_call 28; refine (CL'.out _ (by first | exact X1.out.drewN 1 | exact XI.out)).mono ?_; rintro e w6 ⟨rfl, x6⟩; have f1 := cellOf x6.box 1 _ rfl; have XL : Hid (Bx w w6 3 r a len c) := x6; clear x6))
      all_goals
        go_wp2
        go_ret
        refine ⟨by rw [R.out, ByteArray.mk_append_mk [116, 117, 112, 108, 101, 32] z, ByteArray.mk_append_mk ([116, 117, 112, 108, 101, 32] ++ z) [32], ByteArray.mk_append_mk]; rfl, ?_⟩
        first | exact XL.out.bel | exact XI.out.bel
    · have g3 : (k == 3) = false := by simpa using h3
      have R : Hid (res = [105, 110, 116]) := hT.out.trans ((if_neg h2).trans ((if_neg h4).trans (if_neg h3)))
      clear h2 h3 h4 hT
      go_enter Tryd.func15, Tryd.ntmps15
      go_wp2_with fail
      go_ret
      exact ⟨by rw [R.out]; rfl, X0.bel⟩
end Go.Proofs.YtpcnlplcpoohgabDoor
