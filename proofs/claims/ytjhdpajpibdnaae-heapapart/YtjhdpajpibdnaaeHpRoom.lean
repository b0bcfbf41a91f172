/-
  Package heap: room, add.
-/
import Derived.Test.YtjhdpajpibdnaaeHpShut
namespace Go.Proofs.Ytjhdpajpibdnaae
open Go.ChangeShapes Go.WideShapes Go.ChangeAt Go.RowKit
set_option linter.unusedVariables false
set_option linter.unusedSimpArgs false
set_option maxHeartbeats 1000000 in
set_option maxRecDepth 100000 in
theorem hroom_none {w : World} {b : Nat} {O : Nat → Prop} {h : HHeap} {G : HG} (H : HIn w b O h G) (v : HVal) (hv : v.ok) (words : Int) (ha : h.at v = none) :
    Calls Try.prog 29 #[.pointer (some ⟨b, 0, none⟩), vAgg v, .int .i64 words] w fun e w' => e = .returned (.tuple #[.pointer none, .int .i64 20]) ∧ Below w.heap.size w w' := by
  have B0 := hidH (belA w (.cells #[.int .i64 v.kind, .int .i64 v.region, .int .i64 v.thing, .int .i64 v.n] 37))
  have BX := hidH (blockNew w #[.int .i64 v.kind, .int .i64 v.region, .int .i64 v.thing, .int .i64 v.n] 37)
  have H1 := hidH (H.below B0.out)
  have C := hidH (hregion_any H1.out v hv)
  clear H hv
  rw [ha] at C
  simp only [Option.isSome_none] at C
  go_enter Try.func29, Try.ntmps29
  go_upto_region 1 with fail
  generalize w.alloc (.cells #[.int .i64 v.kind, .int .i64 v.region, .int .i64 v.thing, .int .i64 v.n] 37) = w1 at B0 BX C H1 ⊢
  generalize w.heap.size = X at BX ⊢
  have x0 := cellOf BX.out 0 _ rfl
  have x1 := cellOf BX.out 1 _ rfl
  have x2 := cellOf BX.out 2 _ rfl
  have x3 := cellOf BX.out 3 _ rfl
  go_wp2_with fail
  refine C.out.mono ?_
  rintro e w2 ⟨rfl, b2⟩
  have BL := hidH (B0.out.trans (b2.mono B0.out.size))
  have H2 := hidH (H1.out.below b2)
  clear x0 x1 x2 x3 BX B0 b2 C H1
  go_wp2
  go_ret2
  exact ⟨rfl, BL.out⟩
set_option maxHeartbeats 1000000 in
set_option maxRecDepth 100000 in
theorem hroom_full {w : World} {b : Nat} {O : Nat → Prop} {h : HHeap} {G : HG} (H : HIn w b O h G) (v : HVal) (hv : v.ok) (words : Int) {p : HPlace} (ha : h.at v = some p) (ht : p.tight words = true) (hl0 : h.left = 0) (hw : 0 ≤ words ∧ words ≤ 1099511627776) (hu : 0 ≤ p.used ∧ p.used ≤ 1099511627776) :
    Calls Try.prog 29 #[.pointer (some ⟨b, 0, none⟩), vAgg v, .int .i64 words] w fun e w' => e = .returned (.tuple #[.pointer none, .int .i64 14]) ∧ Below w.heap.size w w' := by
  obtain ⟨k, hkv⟩ : ∃ k : Nat, v.region = k := by obtain ⟨_, _, k, h, _⟩ := HHeap.at_some ha; exact ⟨k, h⟩
  have B0 := hidH (belA w (.cells #[.int .i64 v.kind, .int .i64 v.region, .int .i64 v.thing, .int .i64 v.n] 37))
  have BX := hidH (blockNew w #[.int .i64 v.kind, .int .i64 v.region, .int .i64 v.thing, .int .i64 v.n] 37)
  have H1 := hidH (H.below B0.out)
  have C := hidH (hregion_any H1.out v hv)
  clear H hv
  obtain ⟨hk, hp, k', hvk, hL, hth⟩ := HHeap.at_some ha
  have e0 : k' = k := by have := hvk; omega
  subst e0
  have ea : hptr h G v.region = some ⟨G.g k', 0, none⟩ := by unfold hptr; rw [hp, hvk]; rfl
  rw [ha, ea] at C
  simp only [Option.isSome_some] at C
  have HLL := hidH hL
  have HTH := hidH hth
  clear hk hp hvk hL hth ea ha hkv
  have HT := hidH ht
  clear ht
  go_enter Try.func29, Try.ntmps29
  go_upto_region 1 with fail
  generalize w.alloc (.cells #[.int .i64 v.kind, .int .i64 v.region, .int .i64 v.thing, .int .i64 v.n] 37) = w1 at B0 BX C H1 ⊢
  generalize w.heap.size = X at BX ⊢
  have x0 := cellOf BX.out 0 _ rfl
  have x1 := cellOf BX.out 1 _ rfl
  have x2 := cellOf BX.out 2 _ rfl
  have x3 := cellOf BX.out 3 _ rfl
  go_wp2_with fail
  refine C.out.mono ?_
  rintro e w2 ⟨rfl, b2⟩
  have BL := hidH (B0.out.trans (b2.mono B0.out.size))
  have H2 := hidH (H1.out.below b2)
  clear x0 x1 x2 x3 BX B0 b2 C H1
  obtain ⟨tv, pv, RI⟩ := H2.out.reg k' p HLL.out HTH.out
  have t0 := cellOf H2.out.top 0 _ rfl
  rw [hl0] at t0
  have g1 := cellOf RI.box 1 _ rfl
  have g2 := cellOf RI.box 2 _ rfl
  clear RI H2 HLL HTH
  generalize G.g k' = gk at *
  by_cases hp0 : p.pages = 0
  · rw [hp0] at g1
    clear HT hp0
    go_wp2
    go_ret2
    exact ⟨rfl, BL.out⟩
  · have hp1 : decide (0 < (p.pages : Int)) = true := decide_eq_true (by omega)
    have hp2 : decide (p.used + words ≤ 16) = false := by
      have := HT.out
      unfold HPlace.tight at this
      rw [decide_eq_false hp0, Bool.false_or] at this
      have := of_decide_eq_true this
      exact decide_eq_false (by omega)
    have hpn : 0 < p.pages := by omega
    clear HT hp0
    go_wp2
    go_ret2
    exact ⟨rfl, BL.out⟩
set_option maxHeartbeats 1000000 in
set_option maxRecDepth 100000 in
theorem hroom_ok {w : World} {b : Nat} {O : Nat → Prop} {h : HHeap} {G : HG} (H : HIn w b O h G) (v : HVal) (hv : v.ok) (words : Int) {p : HPlace} (ha : h.at v = some p) {k : Nat} (hkv : v.region = k) (hok : ¬ (p.tight words = true ∧ h.left = 0)) (hw : 0 ≤ words ∧ words ≤ 1099511627776) (hu : 0 ≤ p.used ∧ p.used ≤ 1099511627776) (hpp : p.pages ≤ 1099511627776) (hll : h.left ≤ 1099511627776) :
    Calls Try.prog 29 #[.pointer (some ⟨b, 0, none⟩), vAgg v, .int .i64 words] w fun e w' => e = .returned (.tuple #[.pointer (some ⟨G.g k, 0, none⟩), .int .i64 0]) ∧ HIn w' b O ⟨h.L.set k (p.roomed words), h.roomLeft p words⟩ G ∧ Step O O w w' := by
  have B0 := hidH (belA w (.cells #[.int .i64 v.kind, .int .i64 v.region, .int .i64 v.thing, .int .i64 v.n] 37))
  have BX := hidH (blockNew w #[.int .i64 v.kind, .int .i64 v.region, .int .i64 v.thing, .int .i64 v.n] 37)
  have H1 := hidH (H.below B0.out)
  have C := hidH (hregion_any H1.out v hv)
  clear H hv
  obtain ⟨hk, hp, k', hvk, hL, hth⟩ := HHeap.at_some ha
  have e0 : k' = k := by have := hvk; omega
  subst e0
  have ea : hptr h G v.region = some ⟨G.g k', 0, none⟩ := by unfold hptr; rw [hp, hvk]; rfl
  rw [ha, ea] at C
  simp only [Option.isSome_some] at C
  have HLL := hidH hL
  have HTH := hidH hth
  clear hk hp hvk hL hth ea ha hkv
  have HO := hidH hok
  clear hok
  go_enter Try.func29, Try.ntmps29
  go_upto_region 1 with fail
  generalize w.alloc (.cells #[.int .i64 v.kind, .int .i64 v.region, .int .i64 v.thing, .int .i64 v.n] 37) = w1 at B0 BX C H1 ⊢
  generalize w.heap.size = X at BX ⊢
  have x0 := cellOf BX.out 0 _ rfl
  have x1 := cellOf BX.out 1 _ rfl
  have x2 := cellOf BX.out 2 _ rfl
  have x3 := cellOf BX.out 3 _ rfl
  go_wp2_with fail
  refine C.out.mono ?_
  rintro e w2 ⟨rfl, b2⟩
  have BL := hidH (B0.out.trans (b2.mono B0.out.size))
  have H2 := hidH (H1.out.below b2)
  clear x0 x1 x2 x3 BX B0 b2 C H1
  obtain ⟨tv, pv, RI⟩ := H2.out.reg k' p HLL.out HTH.out
  have t0 := cellOf H2.out.top 0 _ rfl
  have f0 := freeOf H2.out.top 0
  have g1 := cellOf RI.box 1 _ rfl
  have g2 := cellOf RI.box 2 _ rfl
  have z1 := freeOf RI.box 1
  have z2 := freeOf RI.box 2
  have hgb : G.g k' ≠ b := (H2.out.os k' _ RI.ob).2.1
  have HR := hidH RI
  have ST := hidH (Step.of_below (O := O) (O' := O) BL.out (fun k hk => .inl hk))
  clear RI BL
  have OG := hidH (H2.out.os k' _ HR.out.ob).1
  cases htt : p.tight words with
  | false =>
    have hp12 : p.pages ≠ 0 ∧ p.used + words ≤ 16 := by
      unfold HPlace.tight at htt
      simp at htt
      omega
    have hp1 : decide (0 < (p.pages : Int)) = true := decide_eq_true (by omega)
    have hp2 : decide (p.used + words ≤ 16) = true := decide_eq_true hp12.2
    have E : Hid (p.roomed words = { p with used := p.used + words } ∧ h.roomLeft p words = h.left) := by show _ ∧ _; unfold HPlace.roomed HHeap.roomLeft; rw [htt]; exact ⟨rfl, rfl⟩
    have Q : Hid (HIn (w2.setCell ⟨G.g k', 2, none⟩ (.int .i64 (p.used + words))) b O ⟨h.L.set k' { p with used := p.used + words }, h.left⟩ G ∧ Step O O w (w2.setCell ⟨G.g k', 2, none⟩ (.int .i64 (p.used + words)))) := by
      refine ⟨H2.out.regSame HLL.out HTH.out HTH.out ⟨tv, pv, HR.out.nums _ rfl ?_ (fun x _ hx _ => Below.heap_setCell _ _ _ _ hx)⟩ ((Step.refl _ _).setCell (p := ⟨G.g k', 2, none⟩) HR.out.ob _), ST.out.setCell (p := ⟨G.g k', 2, none⟩) OG.out _⟩
      have := blockSet HR.out.box 2 (.int .i64 (p.used + words))
      simpa using this
    have hpn : 0 < p.pages := by omega
    clear htt hp12 HR H2 HLL HTH ST OG HO hgb
    go_wp2
    go_ret2
    rw [E.out.1, E.out.2]
    exact ⟨rfl, Q.out⟩
  | true =>
    have hl0 : h.left ≠ 0 := fun e => HO.out ⟨htt, e⟩
    have E : Hid (p.roomed words = { p with pages := p.pages + 1, used := words } ∧ h.roomLeft p words = h.left - 1) := by show _ ∧ _; unfold HPlace.roomed HHeap.roomLeft; rw [htt]; exact ⟨rfl, rfl⟩
    have hld : decide ((h.left : Int) ≤ 0) = false := decide_eq_false (by omega)
    have Q : Hid (HIn (((w2.setCell ⟨b, 0, none⟩ (.int .i64 ((h.left : Int) - 1))).setCell ⟨G.g k', 1, none⟩ (.int .i64 ((p.pages : Int) + 1))).setCell ⟨G.g k', 2, none⟩ (.int .i64 words)) b O ⟨h.L.set k' { p with pages := p.pages + 1, used := words }, h.left - 1⟩ G ∧ Step O O w (((w2.setCell ⟨b, 0, none⟩ (.int .i64 ((h.left : Int) - 1))).setCell ⟨G.g k', 1, none⟩ (.int .i64 ((p.pages : Int) + 1))).setCell ⟨G.g k', 2, none⟩ (.int .i64 words))) := by
      have H3 := H2.out.toLeft (h.left - 1)
      rw [show ((h.left - 1 : Nat) : Int) = (h.left : Int) - 1 by omega] at H3
      have S3 := ST.out.setCell (p := ⟨b, 0, none⟩) H2.out.ob (.int .i64 ((h.left : Int) - 1))
      have R3 := HR.out.keep (w' := w2.setCell ⟨b, 0, none⟩ (.int .i64 ((h.left : Int) - 1))) (fun x hx _ => Below.heap_setCell _ _ _ _ (H2.out.os k' x hx).2.1)
      generalize w2.setCell ⟨b, 0, none⟩ (.int .i64 ((h.left : Int) - 1)) = w3 at H3 S3 R3 ⊢
      refine ⟨H3.regSame HLL.out HTH.out HTH.out ⟨tv, pv, R3.nums _ rfl ?_ (fun x _ hx _ => (Below.heap_setCell _ _ _ _ hx).trans (Below.heap_setCell _ _ _ _ hx))⟩ (((Step.refl _ _).setCell (p := ⟨G.g k', 1, none⟩) R3.ob _).setCell (p := ⟨G.g k', 2, none⟩) R3.ob _), (S3.setCell (p := ⟨G.g k', 1, none⟩) OG.out _).setCell (p := ⟨G.g k', 2, none⟩) OG.out _⟩
      have := blockSet (blockSet R3.box 1 (.int .i64 ((p.pages : Int) + 1))) 2 (.int .i64 words)
      simpa using this
    by_cases hp0 : p.pages = 0
    · rw [hp0] at g1 Q E
      have e9 : ((0 : Nat) : Int) = 0 := rfl
      rw [e9] at g1 Q
      simp only [Int.zero_add] at Q
      clear HR H2 HLL HTH ST OG HO e9
      go_wp2
      go_ret2
      rw [E.out.1, E.out.2]
      exact ⟨rfl, Q.out⟩
    · have hp1 : decide (0 < (p.pages : Int)) = true := decide_eq_true (by omega)
      have hp2 : decide (p.used + words ≤ 16) = false := by
        have := htt
        unfold HPlace.tight at this
        rw [decide_eq_false hp0, Bool.false_or] at this
        have := of_decide_eq_true this
        exact decide_eq_false (by omega)
      have hpn : 0 < p.pages := by omega
      clear htt HR H2 HLL HTH ST OG HO hp0
      go_wp2
      go_ret2
      rw [E.out.1, E.out.2]
      exact ⟨rfl, Q.out⟩
end Go.Proofs.Ytjhdpajpibdnaae
