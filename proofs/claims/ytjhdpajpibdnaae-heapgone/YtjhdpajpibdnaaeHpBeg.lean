/-
  heapBegun answers true.
-/
import Derived.Test.YtjhdpajpibdnaaeHpLaw
namespace Go.Proofs.Ytjhdpajpibdnaae
open Go.ChangeShapes Go.WideShapes Go.ChangeAt Go.RowKit
set_option linter.unusedVariables false
set_option linter.unusedSimpArgs false
abbrev vBox (v : HVal) : Obj := .cells #[.int .i64 v.kind, .int .i64 v.region, .int .i64 v.thing, .int .i64 v.n] 37
/-- One value in a block of its own. -/
theorem vin_one {w : World} {g : Nat} {v : HVal} (h : w.heap[g]? = some (.cells #[.int .i64 v.kind, .int .i64 v.region, .int .i64 v.thing, .int .i64 v.n] 37 (0, 0))) : VIn w (some ⟨g, 0, none⟩) [v] := by
  intro i x hx
  have hi := (List.getElem?_eq_some_iff.1 hx).1
  have : i = 0 := by simp at hi; omega
  subst this
  simp at hx
  subst hx
  exact ⟨g, 0, rfl, lt_of_block h, cellOf h 0 _ rfl, cellOf h 1 _ rfl, cellOf h 2 _ rfl, cellOf h 3 _ rfl⟩
def bg1 : HHeap := ⟨[newP], 1⟩
def bg2 : HHeap := ⟨[⟨true, [⟨false, [intV 5]⟩], 1, 1⟩], 0⟩
def bg3 : HHeap := ⟨[⟨true, [⟨false, [intV 5]⟩, ⟨true, nots 14⟩], 1, 16⟩], 0⟩
def bg4 : HHeap := ⟨[noP], 1⟩
def bgv : HVal := ⟨2, 0, 0, 0⟩
theorem bg_open : (HHeap.new 1).open_ = (bgv, true, bg1) := by rfl
theorem bg_tup : bg1.tuple bgv ([intV 5].map HVal.bare) = (⟨3, 0, 0, 0⟩, 0, bg2) := by rfl
theorem bg_get : bg2.get ⟨3, 0, 0, 0⟩ 0 = (intV 5, 0) := by rfl
theorem bg_arr15 : bg2.array bgv (15 : Nat) = (noV, 14, bg2) := by rfl
theorem bg_arr14 : bg2.array bgv (14 : Nat) = (⟨4, 0, 1, 0⟩, 0, bg3) := by rfl
theorem bg_shut : bg3.shut bgv = (true, bg4) := by rfl
theorem bgb1 : HB 1 bg1 := by have := (HB.new 1 (by decide)).open; rwa [bg_open] at this
theorem bgb2 : HB 10 bg2 := by have := (bgb1.tuple bgv ([intV 5].map HVal.bare) (M := 1) (by decide)); rw [bg_tup] at this; exact this.mono (by decide)
theorem bgb3 : HB 100 bg3 := by
  refine ⟨?_, ?_, by decide⟩
  · have := bgb2.ok.put bgv ⟨true, nots 14⟩ (words := 15) (M := 15) (by decide)
    rw [show bg2.put bgv ⟨true, nots 14⟩ 15 = (⟨4, 0, 1, 0⟩, 0, bg3) from rfl] at this
    exact this.mono (by decide)
  · have := (bgb2.len.mono (show 10 ≤ 100 by decide)).put bgv ⟨true, nots 14⟩ 15 (by decide)
    rw [show bg2.put bgv ⟨true, nots 14⟩ 15 = (⟨4, 0, 1, 0⟩, 0, bg3) from rfl] at this
    exact this
theorem bgv_ok : bgv.ok := by unfold HVal.ok is64 bgv; decide
theorem HNext.blk {w0 w w' : World} {b : Nat} {h : HHeap} {K : Nat → Prop} (n : HNext w0 w w' b h K) {X : Nat} {c : Array Value} {t : TypeId} (hX : K X) (hb : w.heap[X]? = some (.cells c t (0, 0))) : w'.heap[X]? = some (.cells c t (0, 0)) := (n.keep X hX).trans hb
theorem HNext.lt {w0 w w' : World} {b : Nat} {h : HHeap} {K : Nat → Prop} (n : HNext w0 w w' b h K) (hK : ∀ x, K x → x < w.heap.size) : ∀ x, K x → x < w'.heap.size := fun x hx => Nat.lt_of_lt_of_le (hK x hx) n.size
theorem ltA {w : World} {K : Nat → Prop} (hK : ∀ x, K x → x < w.heap.size) (o : Obj) : ∀ x, (K x ∨ x = w.heap.size) → x < (w.alloc o).heap.size := by
  rintro x (hx | hx)
  · have := hK x hx; simp; omega
  · simp; omega
theorem blkA {w : World} {X : Nat} {o : Obj} (o' : Obj) (hb : w.heap[X]? = some o) : (w.alloc o').heap[X]? = some o := (Below.heap_alloc w o' X (lt_of_block hb)).trans hb
set_option maxHeartbeats 1000000 in
set_option maxRecDepth 100000 in
theorem heapBegun_any (w : World) : Calls Try.prog 6 #[] w fun e w' => e = .returned (.bool true) ∧ Below w.heap.size w w' := by
  have C1 := hidH (snewH (Below.refl w.heap.size w) 1 (K := fun _ => False) (fun x h => h.elim))
  go_enter Try.func6, Try.ntmps6
  go_wp2_with fail
  refine C1.out.mono ?_
  rintro e w1 ⟨rfl, n1⟩
  generalize w.heap.size + 1 = b at n1
  have k1 := n1.lt (fun x h => h.elim)
  have S1 := hidH n1.st
  have K1 := hidH k1
  clear C1 n1 k1
  -- Open
  have C2 := hidH (sopen S1.out (HB.new 1 (by decide)) (by decide) K1.out)
  rw [bg_open] at C2
  go_wp2_with fail
  refine C2.out.mono ?_
  rintro e w2 ⟨rfl, n2⟩
  have k2 := n2.lt K1.out
  have S3 := hidH (n2.st.alloc (vBox bgv))
  have K3 := hidH (ltA k2 (vBox bgv))
  have V3 := hidH (blockNew w2 #[.int .i64 2, .int .i64 0, .int .i64 0, .int .i64 0] 37)
  clear C2 S1 K1 n2 k2
  simp only [bgv] at S3 K3 ⊢
  go_upto_region 3 with fail
  generalize w2.alloc (.cells #[.int .i64 2, .int .i64 0, .int .i64 0, .int .i64 0] 37) = w3 at S3 K3 V3 ⊢
  generalize w2.heap.size = X at S3 K3 V3 ⊢
  have x0 := cellOf V3.out 0 _ rfl
  have x1 := cellOf V3.out 1 _ rfl
  have x2 := cellOf V3.out 2 _ rfl
  have x3 := cellOf V3.out 3 _ rfl
  -- Tuple
  have S4 := hidH (S3.out.alloc (vBox (intV 5)))
  have K4 := hidH (ltA K3.out (vBox (intV 5)))
  have L4 := hidH (blockNew w3 #[.int .i64 1, .int .i64 0, .int .i64 0, .int .i64 5] 37)
  have V4 := hidH (blkA (vBox (intV 5)) V3.out)
  have C4 := hidH (stuple (l := [intV 5]) (n := 1) (c := 1) S4.out bgb1 (by decide) K4.out bgv bgv_ok rfl (by decide) (vin_one L4.out) (fun g o e => .inl (.inr (by cases e; rfl))))
  rw [bg_tup] at C4
  clear S3 K3 V3 L4
  go_wp2_with fail
  refine C4.out.mono ?_
  rintro e w5 ⟨rfl, n5⟩
  have V5 := n5.blk (.inl (.inr rfl)) V4.out
  have k5 := n5.lt K4.out
  have S6 := hidH (n5.st.alloc (vBox ⟨3, 0, 0, 0⟩))
  have K6 := hidH (ltA k5 (vBox ⟨3, 0, 0, 0⟩))
  have T6 := hidH (blockNew w5 #[.int .i64 3, .int .i64 0, .int .i64 0, .int .i64 0] 37)
  have V6 := hidH (blkA (vBox ⟨3, 0, 0, 0⟩) V5)
  clear C4 S4 K4 V4 n5 V5 k5 x0 x1 x2 x3
  go_upto_region 4 with fail
  generalize w5.alloc (.cells #[.int .i64 3, .int .i64 0, .int .i64 0, .int .i64 0] 37) = w6 at S6 K6 T6 V6 ⊢
  generalize w5.heap.size = Y at S6 K6 T6 ⊢
  generalize w3.heap.size = Z0 at S6 K6 ⊢
  have x0 := cellOf T6.out 0 _ rfl
  have x1 := cellOf T6.out 1 _ rfl
  have x2 := cellOf T6.out 2 _ rfl
  have x3 := cellOf T6.out 3 _ rfl
  -- Get
  have C6 := hidH (sget S6.out bgb2 (by decide) K6.out ⟨3, 0, 0, 0⟩ (by unfold HVal.ok is64; decide) 0)
  rw [bg_get] at C6
  go_wp2_with fail
  refine C6.out.mono ?_
  rintro e w7 ⟨rfl, n7⟩
  have V7 := n7.blk (.inl (.inl (.inr rfl))) V6.out
  have k7 := n7.lt K6.out
  have S8 := hidH (n7.st.alloc (vBox (intV 5)))
  have K8 := hidH (ltA k7 (vBox (intV 5)))
  have G8 := hidH (blockNew w7 #[.int .i64 1, .int .i64 0, .int .i64 0, .int .i64 5] 37)
  have V8 := hidH (blkA (vBox (intV 5)) V7)
  clear C6 S6 K6 V6 T6 n7 V7 k7 x0 x1 x2 x3
  simp only [intV] at *
  go_upto_region 5 with fail
  generalize w7.alloc (.cells #[.int .i64 1, .int .i64 0, .int .i64 0, .int .i64 5] 37) = w8 at S8 K8 G8 V8 ⊢
  generalize w7.heap.size = Y2 at S8 K8 G8 ⊢
  have x0 := cellOf V8.out 0 _ rfl
  have x1 := cellOf V8.out 1 _ rfl
  have x2 := cellOf V8.out 2 _ rfl
  have x3 := cellOf V8.out 3 _ rfl
  -- Array 15
  have C8 := hidH (sarray S8.out bgb2 (by decide) K8.out bgv bgv_ok (n := 15) (by decide))
  rw [bg_arr15] at C8
  go_wp2_with fail
  refine C8.out.mono ?_
  rintro e w9 ⟨rfl, n9⟩
  have V9 := n9.blk (.inl (.inl (.inl (.inr rfl)))) V8.out
  have G9 := n9.blk (.inr rfl) G8.out
  have k9 := n9.lt K8.out
  have S10 := hidH (n9.st.alloc (vBox noV))
  have K10 := hidH (ltA k9 (vBox noV))
  have V10 := hidH (blkA (vBox noV) V9)
  have G10 := hidH (blkA (vBox noV) G9)
  clear C8 S8 K8 V8 G8 n9 V9 k9 G9 x0 x1 x2 x3
  simp only [noV] at *
  go_upto_region 6 with fail
  generalize w9.alloc (.cells #[.int .i64 0, .int .i64 0, .int .i64 0, .int .i64 0] 37) = w10 at S10 K10 G10 V10 ⊢
  generalize w9.heap.size = Y3 at S10 K10 ⊢
  have x0 := cellOf V10.out 0 _ rfl
  have x1 := cellOf V10.out 1 _ rfl
  have x2 := cellOf V10.out 2 _ rfl
  have x3 := cellOf V10.out 3 _ rfl
  -- Array 14
  have C10 := hidH (sarray S10.out bgb2 (by decide) K10.out bgv bgv_ok (n := 14) (by decide))
  rw [bg_arr14] at C10
  go_wp2_with fail
  refine C10.out.mono ?_
  rintro e w11 ⟨rfl, n11⟩
  have V11 := n11.blk (.inl (.inl (.inl (.inl (.inr rfl))))) V10.out
  have G11 := n11.blk (.inl (.inr rfl)) G10.out
  have k11 := n11.lt K10.out
  have S12 := hidH (n11.st.alloc (vBox ⟨4, 0, 1, 0⟩))
  have K12 := hidH (ltA k11 (vBox ⟨4, 0, 1, 0⟩))
  have V12 := hidH (blkA (vBox ⟨4, 0, 1, 0⟩) V11)
  have G12 := hidH (blkA (vBox ⟨4, 0, 1, 0⟩) G11)
  clear C10 S10 K10 V10 G10 n11 V11 k11 G11 x0 x1 x2 x3
  go_upto_region 7 with fail
  generalize w11.alloc (.cells #[.int .i64 4, .int .i64 0, .int .i64 1, .int .i64 0] 37) = w12 at S12 K12 G12 V12 ⊢
  generalize w11.heap.size = Y4 at S12 K12 ⊢
  have x0 := cellOf V12.out 0 _ rfl
  have x1 := cellOf V12.out 1 _ rfl
  have x2 := cellOf V12.out 2 _ rfl
  have x3 := cellOf V12.out 3 _ rfl
  have y3 := cellOf G12.out 3 _ rfl
  have C12 := hidH (sshut S12.out bgb3 (by decide) K12.out bgv bgv_ok)
  rw [bg_shut] at C12
  go_wp2_with fail
  refine C12.out.mono ?_
  rintro e w13 ⟨rfl, n13⟩
  have S13 := hidH n13.st
  clear C12 n13 S12 K12 V12 G12 x0 x1 x2 x3 y3
  have CP := hidH (spages S13.out)
  have CL := hidH (slive S13.out)
  rw [show (bg4.live : Int) = 0 from rfl] at CL
  rw [show (bg4.left : Int) = 1 from rfl] at CP
  go_wp2_with (first | (go_at_call 24; refine (CP.out).mono ?_; rintro e w' ⟨rfl, hw⟩; have hw := hw.symm; subst hw) | (go_at_call 25; refine (CL.out).mono ?_; rintro e w' ⟨rfl, hw⟩; have hw := hw.symm; subst hw))
  go_ret
  exact ⟨rfl, S13.out.below⟩
end Go.Proofs.Ytjhdpajpibdnaae
