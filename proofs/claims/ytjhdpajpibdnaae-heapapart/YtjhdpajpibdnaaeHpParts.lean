/-
  Package heap: parts of a thing.
-/
import Derived.Test.YtjhdpajpibdnaaeHpFn
namespace Go.Proofs.Ytjhdpajpibdnaae
open Go.ChangeShapes Go.WideShapes Go.ChangeAt Go.RowKit
set_option linter.unusedVariables false
set_option linter.unusedSimpArgs false
theorem cell_aN {w : World} {a : Addr} {v : Value} {m : Nat} {o : Obj} (h : w.cell? a = some v) : ((w.drewN m).alloc o).cell? a = some v := by
  have hl : a.block < w.heap.size := by
    rcases Nat.lt_or_ge a.block w.heap.size with h1 | h1
    · exact h1
    · simp [World.cell?, Array.getElem?_eq_none h1] at h
  rw [← h]
  exact World.cell?_of_block (w := w) (Below.heap_alloc (w.drewN m) o _ hl)
theorem belowD {B : Nat} {w w1 : World} (h : Below B w w1) : Below B w w1.drew := ⟨h.os, h.tape, h.output, h.size, h.block⟩
theorem cell_aA {w : World} {a : Addr} {v : Value} {o : Obj} (h : w.cell? a = some v) : (w.alloc o).cell? a = some v := cell_aN (m := 0) h
/-- The cells of one thing. -/
theorem row_at {w : World} {l : List HThing} {pv : Nat → Value} {g n c i : Nat} {t : HThing} (h : w.ownsRow 0 94 2 (.slice (some ⟨g, 0, none⟩) n c) l.length (tflat pv l 0)) (ht : l[i]? = some t) :
    w.cell? ⟨g, i * 2, none⟩ = some (.int .i64 t.knd) ∧ w.cell? ⟨g, i * 2 + 1, none⟩ = some (pv i) := by
  have hi := (List.getElem?_eq_some_iff.1 ht).1
  obtain ⟨h1, h2⟩ := tflat_at pv l 0 i t ht
  rw [Nat.zero_add] at h2
  rcases h.2 with ⟨e, -⟩ | ⟨g', cap, cur, e, -, hh, -, -, -, hk⟩
  · cases e
  · cases e
    rw [← hk] at h1 h2
    rw [List.getElem?_take, if_pos (by omega)] at h1 h2
    exact ⟨cellOf hh _ _ (by simpa using h1), cellOf hh _ _ (by simpa using h2)⟩
set_option maxHeartbeats 1000000 in
set_option maxRecDepth 100000 in
theorem hparts_none {w : World} {b : Nat} {O : Nat → Prop} {h : HHeap} {G : HG} (H : HIn w b O h G) (kd rg th n : Int) (hrg : is64 rg) (hp : h.place rg = none) :
    Calls Try.prog 34 #[.pointer (some ⟨b, 0, none⟩), .agg #[.int .i64 kd, .int .i64 rg, .int .i64 th, .int .i64 n]] w fun e w' => e = .returned (.tuple #[.slice none 0 0, .bool false]) ∧ Below w.heap.size w w' := by
  have B0 := hidH (belA w (.cells #[.int .i64 kd, .int .i64 rg, .int .i64 th, .int .i64 n] 37))
  have BX := hidH (blockNew w #[.int .i64 kd, .int .i64 rg, .int .i64 th, .int .i64 n] 37)
  have H1 := H.below B0.out
  have hl := H1.lookN hrg
  have t2 := cellOf H1.top 2 _ rfl
  rw [hp] at hl
  clear H H1 hrg hp
  generalize hptr h G rg = a at hl ⊢
  simp only [Option.isSome_none] at hl
  generalize G.bm = bm at hl t2
  go_enter Try.func34, Try.ntmps34
  go_upto_region 1 with fail
  generalize w.alloc (.cells #[.int .i64 kd, .int .i64 rg, .int .i64 th, .int .i64 n] 37) = w1 at B0 BX hl t2 ⊢
  generalize w.heap.size = X at BX ⊢
  have x0 := cellOf BX.out 0 _ rfl
  have x1 := cellOf BX.out 1 _ rfl
  have x2 := cellOf BX.out 2 _ rfl
  go_quiet (fail)
  go_wp2
  go_quiet (fail)
  go_wp2
  go_ret2
  exact ⟨rfl, belowN (belowN B0.out _) _⟩
set_option maxHeartbeats 1000000 in
set_option maxRecDepth 100000 in
theorem hparts_neg {w : World} {b : Nat} {O : Nat → Prop} {h : HHeap} {G : HG} (H : HIn w b O h G) (kd rg th n : Int) (hrg : is64 rg) {p : HPlace} (hp : h.place rg = some p) (hth : th < 0) (hpl : p.l.length ≤ 4611686018427387904) {tv : Value} {pv : Nat → Value} (R : RegIn w (G.g rg.toNat) rg.toNat p (G.S rg.toNat) tv pv) :
    Calls Try.prog 34 #[.pointer (some ⟨b, 0, none⟩), .agg #[.int .i64 kd, .int .i64 rg, .int .i64 th, .int .i64 n]] w fun e w' => e = .returned (.tuple #[.slice none 0 0, .bool false]) ∧ Below w.heap.size w w' := by
  have B0 := hidH (belA w (.cells #[.int .i64 kd, .int .i64 rg, .int .i64 th, .int .i64 n] 37))
  have BX := hidH (blockNew w #[.int .i64 kd, .int .i64 rg, .int .i64 th, .int .i64 n] 37)
  have H1 := H.below B0.out
  have hl := H1.lookN hrg
  have t2 := cellOf H1.top 2 _ rfl
  have R1 := R.keep (fun x _ hx => B0.out.block x hx)
  obtain ⟨ta, tc, rfl⟩ : ∃ a c, tv = .slice a p.l.length c := by
    rcases R.row.2 with ⟨e, e0⟩ | ⟨g, cap, cur, e, _⟩
    · exact ⟨none, 0, by rw [e, e0]⟩
    · exact ⟨_, _, e⟩
  have r3 := cellOf R1.box 3 _ rfl
  unfold hptr at hl
  rw [hp] at hl
  clear H H1 hrg hp R R1
  simp only [Option.isSome_some, if_true] at hl
  generalize G.bm = bm at hl t2
  generalize G.g rg.toNat = gk at hl r3
  generalize p.l.length = pn at *
  have hd : decide (th < 0) = true := decide_eq_true hth
  go_enter Try.func34, Try.ntmps34
  go_upto_region 1 with fail
  generalize w.alloc (.cells #[.int .i64 kd, .int .i64 rg, .int .i64 th, .int .i64 n] 37) = w1 at B0 BX hl t2 r3 ⊢
  generalize w.heap.size = X at BX ⊢
  have x0 := cellOf BX.out 0 _ rfl
  have x1 := cellOf BX.out 1 _ rfl
  have x2 := cellOf BX.out 2 _ rfl
  go_quiet (fail)
  go_wp2
  go_quiet (fail)
  go_wp2
  go_ret2
  exact ⟨rfl, belowN (belowN B0.out _) _⟩
set_option maxHeartbeats 1000000 in
set_option maxRecDepth 100000 in
theorem hparts_far {w : World} {b : Nat} {O : Nat → Prop} {h : HHeap} {G : HG} (H : HIn w b O h G) (kd rg th n : Int) (hrg : is64 rg) {p : HPlace} (hp : h.place rg = some p) (hth : (p.l.length : Int) ≤ th) (hpl : p.l.length ≤ 4611686018427387904) {tv : Value} {pv : Nat → Value} (R : RegIn w (G.g rg.toNat) rg.toNat p (G.S rg.toNat) tv pv) :
    Calls Try.prog 34 #[.pointer (some ⟨b, 0, none⟩), .agg #[.int .i64 kd, .int .i64 rg, .int .i64 th, .int .i64 n]] w fun e w' => e = .returned (.tuple #[.slice none 0 0, .bool false]) ∧ Below w.heap.size w w' := by
  have B0 := hidH (belA w (.cells #[.int .i64 kd, .int .i64 rg, .int .i64 th, .int .i64 n] 37))
  have BX := hidH (blockNew w #[.int .i64 kd, .int .i64 rg, .int .i64 th, .int .i64 n] 37)
  have H1 := H.below B0.out
  have hl := H1.lookN hrg
  have t2 := cellOf H1.top 2 _ rfl
  have R1 := R.keep (fun x _ hx => B0.out.block x hx)
  obtain ⟨ta, tc, rfl⟩ : ∃ a c, tv = .slice a p.l.length c := by
    rcases R.row.2 with ⟨e, e0⟩ | ⟨g, cap, cur, e, _⟩
    · exact ⟨none, 0, by rw [e, e0]⟩
    · exact ⟨_, _, e⟩
  have r3 := cellOf R1.box 3 _ rfl
  unfold hptr at hl
  rw [hp] at hl
  clear H H1 hrg hp R R1
  simp only [Option.isSome_some, if_true] at hl
  generalize G.bm = bm at hl t2
  generalize G.g rg.toNat = gk at hl r3
  generalize p.l.length = pn at *
  have hd : decide (th < 0) = false := decide_eq_false (by omega)
  have hd2 : decide (th ≥ (pn : Int)) = true := decide_eq_true hth
  go_enter Try.func34, Try.ntmps34
  go_upto_region 1 with fail
  generalize w.alloc (.cells #[.int .i64 kd, .int .i64 rg, .int .i64 th, .int .i64 n] 37) = w1 at B0 BX hl t2 r3 ⊢
  generalize w.heap.size = X at BX ⊢
  have x0 := cellOf BX.out 0 _ rfl
  have x1 := cellOf BX.out 1 _ rfl
  have x2 := cellOf BX.out 2 _ rfl
  go_quiet (fail)
  go_wp2
  go_quiet (fail)
  go_wp2
  go_ret2
  exact ⟨rfl, belowN (belowN B0.out _) _⟩
set_option maxHeartbeats 1000000 in
set_option maxRecDepth 100000 in
theorem hparts_some {w : World} {b : Nat} {O : Nat → Prop} {h : HHeap} {G : HG} (H : HIn w b O h G) (kd rg n : Int) (i : Nat) (hrg : is64 rg) {p : HPlace} (hp : h.place rg = some p) {t : HThing} (ht : p.l[i]? = some t) (hpl : p.l.length ≤ 4611686018427387904) {tv : Value} {pv : Nat → Value} (R : RegIn w (G.g rg.toNat) rg.toNat p (G.S rg.toNat) tv pv) :
    Calls Try.prog 34 #[.pointer (some ⟨b, 0, none⟩), .agg #[.int .i64 kd, .int .i64 rg, .int .i64 (i : Int), .int .i64 n]] w fun e w' => e = .returned (.tuple #[pv i, .bool (t.knd == kd)]) ∧ Below w.heap.size w w' := by
  have B0 := hidH (belA w (.cells #[.int .i64 kd, .int .i64 rg, .int .i64 (i : Int), .int .i64 n] 37))
  have BX := hidH (blockNew w #[.int .i64 kd, .int .i64 rg, .int .i64 (i : Int), .int .i64 n] 37)
  have H1 := H.below B0.out
  have hl := H1.lookN hrg
  have t2 := cellOf H1.top 2 _ rfl
  have R1 := R.keep (fun x _ hx => B0.out.block x hx)
  have hi := (List.getElem?_eq_some_iff.1 ht).1
  obtain ⟨tg, tc, rfl⟩ : ∃ g c, tv = .slice (some ⟨g, 0, none⟩) p.l.length c := by
    rcases R.row.2 with ⟨e, e0⟩ | ⟨g, cap, cur, e, _⟩
    · omega
    · exact ⟨_, _, e⟩
  obtain ⟨q0, q1⟩ := row_at R1.row ht
  obtain ⟨pa, pn, pc, hpv⟩ : ∃ a n c, pv i = .slice a n c := by
    obtain ⟨⟨a, c, e⟩, -⟩ := R.part i t ht
    exact ⟨a, _, c, e⟩
  rw [hpv] at q1 ⊢
  have r3 := cellOf R1.box 3 _ rfl
  unfold hptr at hl
  rw [hp] at hl
  clear H H1 hrg hp R R1 ht hpv
  simp only [Option.isSome_some, if_true] at hl
  generalize G.bm = bm at hl t2
  generalize G.g rg.toNat = gk at hl r3
  generalize p.l.length = tn at *
  generalize t.knd = tk at *
  have hd : decide ((i : Int) < 0) = false := decide_eq_false (by omega)
  have hd2 : decide ((i : Int) ≥ (tn : Int)) = false := decide_eq_false (by omega)
  go_enter Try.func34, Try.ntmps34
  go_upto_region 1 with fail
  generalize w.alloc (.cells #[.int .i64 kd, .int .i64 rg, .int .i64 (i : Int), .int .i64 n] 37) = w1 at B0 BX hl t2 r3 q0 q1 ⊢
  generalize w.heap.size = X at BX ⊢
  have x0 := cellOf BX.out 0 _ rfl
  have x1 := cellOf BX.out 1 _ rfl
  have x2 := cellOf BX.out 2 _ rfl
  go_quiet (fail)
  go_wp2
  revert nq
  intro nq0
  go_quiet (fail)
  go_wp2_with fail
  have B2 := hidH (belowN (belowN B0.out nq0) nq)
  have y0 : ((w1.drewN nq0).drewN nq).cell? ⟨X, 0, none⟩ = _ := x0
  have y2 : ((w1.drewN nq0).drewN nq).cell? ⟨X, 2, none⟩ = _ := x2
  have s3 : ((w1.drewN nq0).drewN nq).cell? ⟨gk, 3, none⟩ = _ := r3
  have p0 : ((w1.drewN nq0).drewN nq).cell? ⟨tg, i * 2, none⟩ = _ := q0
  have p1 : ((w1.drewN nq0).drewN nq).cell? ⟨tg, i * 2 + 1, none⟩ = _ := q1
  generalize (w1.drewN nq0).drewN nq = w2 at B2 y0 y2 s3 p0 p1 ⊢
  clear x0 x1 x2 r3 q0 q1 hl t2 BX B0
  have x2a := cell_aA (o := .cells #[.int .i64 0, .slice none 0 0] 94) y2
  have r3a := cell_aA (o := .cells #[.int .i64 0, .slice none 0 0] 94) s3
  have q0a := cell_aA (o := .cells #[.int .i64 0, .slice none 0 0] 94) p0
  have q1a := cell_aA (o := .cells #[.int .i64 0, .slice none 0 0] 94) p1
  have BN := hidH (blockNew w2 #[.int .i64 tk, .slice pa pn pc] 94)
  have B3 := hidH ((B2.out.alloc B2.out.size (.cells #[.int .i64 tk, .slice pa pn pc] 94)))
  have y0a := cell_aA (o := .cells #[.int .i64 tk, .slice pa pn pc] 94) y0
  go_region
  go_wp2_with fail
  generalize w2.alloc (.cells #[.int .i64 tk, .slice pa pn pc] 94) = w3 at BN B3 y0a ⊢
  generalize w2.heap.size = Y at BN ⊢
  have n0 := cellOf BN.out 0 _ rfl
  have n1 := cellOf BN.out 1 _ rfl
  clear B2 y0 y2 s3 p0 p1 x2a r3a q0a q1a
  go_quiet (fail)
  go_wp2
  go_ret2
  exact ⟨rfl, belowN (belowD B3.out) _⟩
end Go.Proofs.Ytjhdpajpibdnaae
