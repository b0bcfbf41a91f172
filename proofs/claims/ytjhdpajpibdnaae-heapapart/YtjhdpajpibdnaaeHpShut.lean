/-
  Package heap: Shut.
-/
import Derived.Test.YtjhdpajpibdnaaeHpOpen
import Derived.Test.YtjhdpajpibdnaaeHpSpec2
namespace Go.Proofs.Ytjhdpajpibdnaae
open Go.ChangeShapes Go.WideShapes Go.ChangeAt Go.RowKit
set_option linter.unusedVariables false
set_option linter.unusedSimpArgs false
set_option maxHeartbeats 1000000 in
set_option maxRecDepth 100000 in
theorem hshut_any {w : World} {b : Nat} {O : Nat → Prop} {h : HHeap} {G : HG} (H : HIn w b O h G) (v : HVal) (hv : v.ok) (hT : ∀ p, h.at v = some p → h.left + p.pages ≤ 4611686018427387904) :
    Calls Try.prog 11 #[.pointer (some ⟨b, 0, none⟩), vAgg v] w fun e w' => e = .returned (.bool (h.shut v).1) ∧ HTo w w' b O (h.shut v).2 := by
  have B0 := hidH (belA w (.cells #[.int .i64 v.kind, .int .i64 v.region, .int .i64 v.thing, .int .i64 v.n] 37))
  have BX := hidH (blockNew w #[.int .i64 v.kind, .int .i64 v.region, .int .i64 v.thing, .int .i64 v.n] 37)
  have H1 := hidH (H.below B0.out)
  have C := hidH (hregion_any H1.out v hv)
  have HT := hidH hT
  have HV := hidH hv
  clear H hv hT
  go_enter Try.func11, Try.ntmps11
  go_upto_region 1 with fail
  generalize w.alloc (.cells #[.int .i64 v.kind, .int .i64 v.region, .int .i64 v.thing, .int .i64 v.n] 37) = w1 at B0 BX C H1 ⊢
  generalize w.heap.size = X at BX ⊢
  have x0 := cellOf BX.out 0 _ rfl
  have x1 := cellOf BX.out 1 _ rfl
  have x2 := cellOf BX.out 2 _ rfl
  have x3 := cellOf BX.out 3 _ rfl
  go_wp2_with fail
  refine C.out.mono ?_
  rintro e w2 ⟨rfl, b2⟩
  have BL := hidH (B0.out.trans (b2.mono B0.out.size))
  have H2 := hidH (H1.out.below b2)
  clear x0 x1 x2 x3 BX B0 b2 C H1
  cases ht : h.at v with
  | none =>
    have E : Hid (h.shut v = (false, h)) := by show _ = _; unfold HHeap.shut; rw [ht]
    simp only [Option.isSome_none]
    clear ht
    go_wp2
    go_ret
    rw [E.out]
    exact ⟨rfl, HTo.same H2.out BL.out⟩
  | some p =>
    obtain ⟨hk, hp, k, hvk, hL, hth⟩ := HHeap.at_some ht
    have E : Hid (h.shut v = (true, ⟨h.L.set k noP, h.left + p.pages⟩)) := by show _ = _; unfold HHeap.shut; rw [ht, hvk, Int.toNat_natCast]
    have hT := HT.out p ht
    have ea : hptr h G v.region = some ⟨G.g k, 0, none⟩ := by unfold hptr; rw [hp, hvk]; rfl
    have HK64 : Hid (is64 k) := by show is64 k; rw [← hvk]; exact HV.out.2.1
    rw [ea]
    obtain ⟨tv, pv, RI⟩ := H2.out.reg k p hL hth
    have t0 := cellOf H2.out.top 0 _ rfl
    have f0 := freeOf H2.out.top 0
    have g1 := cellOf RI.box 1 _ rfl
    have HLL := hidH hL
    have HTH := hidH hth
    have HTT := hidH hT
    have hT' : (h.left : Int) + (p.pages : Int) ≤ 4611686018427387904 := by omega
    have hT0 : 0 ≤ (h.left : Int) + (p.pages : Int) := by omega
    have H3 : Hid (HIn (w2.setCell ⟨b, 0, none⟩ (.int .i64 ((h.left : Int) + (p.pages : Int)))) b O { h with left := h.left + p.pages } G) := by
      have := H2.out.toLeft (h.left + p.pages)
      rw [show ((h.left + p.pages : Nat) : Int) = (h.left : Int) + (p.pages : Int) by omega] at this
      exact this
    have S3 : Hid (Step O O w (w2.setCell ⟨b, 0, none⟩ (.int .i64 ((h.left : Int) + (p.pages : Int))))) := (Step.of_below BL.out (fun k hk => .inl hk)).setCell (p := ⟨b, 0, none⟩) H2.out.ob _
    simp only [Option.isSome_some]
    clear ht hk hp hvk hL hth ea RI HT HV H2 BL hT
    have H3d := hidH H3.out.drew
    have S3d := hidH S3.out.drew
    clear H3 S3
    go_wp2_with fail
    go_region
    generalize (w2.setCell ⟨b, 0, none⟩ (.int .i64 ((h.left : Int) + (p.pages : Int)))).drew = w3 at H3d S3d ⊢
    clear t0 f0 g1
    obtain ⟨tv3, pv3, RI3⟩ := H3d.out.reg k p HLL.out HTH.out
    have u0 := cellOf RI3.box 0 _ rfl
    have u2 := cellOf H3d.out.top 2 _ rfl
    obtain ⟨w4, hrun, m1, m2⟩ := H3d.out.drew.map.drop hKeyed Try.underlying66 (Maps.keyOf_int_mk Try.underlying3 (wf64 HK64.out)) 0
    have Q : Hid (HTo w w4 b O ⟨h.L.set k noP, h.left + p.pages⟩) := by
      have gr := m2.grown
      refine ⟨O, _, H3d.out.drew.gone HLL.out HTH.out HK64.out m1 m2, ⟨gr.os.trans S3d.out.os, gr.tape.trans S3d.out.drew.tape, gr.output.trans S3d.out.output, Nat.le_trans S3d.out.size gr.size, fun x hx hn => ?_, fun x hx => .inl hx⟩, fun _ h => h⟩
      exact (gr.block x (Nat.lt_of_lt_of_le hx S3d.out.size) (fun e => hn (by have e9 : x = G.bm := (by simpa using e); rw [e9]; exact H3d.out.om))).trans (S3d.out.block x hx hn)
    clear m1 m2 RI3 H3d S3d HLL HTH HTT HK64 hT' hT0
    generalize G.g k = gk at *
    generalize G.bm = bm at *
    go_wp2_with fail
    go_region
    go_wp2
    go_ret
    rw [E.out]
    exact ⟨rfl, Q.out⟩
end Go.Proofs.Ytjhdpajpibdnaae
