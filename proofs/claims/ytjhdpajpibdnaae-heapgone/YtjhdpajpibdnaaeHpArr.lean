/-
  Package heap: Array.
-/
import Derived.Test.YtjhdpajpibdnaaeHpRep
namespace Go.Proofs.Ytjhdpajpibdnaae
open Go.ChangeShapes Go.WideShapes Go.ChangeAt Go.RowKit
set_option linter.unusedVariables false
set_option linter.unusedSimpArgs false
theorem HHeap.array_eq {h : HHeap} {v : HVal} {n : Nat} (hb : n ≤ 15) : h.array v (n : Int) = h.put v ⟨true, nots n⟩ ((n : Int) + 1) := by unfold HHeap.array; rw [if_neg (by omega), Int.toNat_natCast]
theorem HHeap.array_none {h : HHeap} {v : HVal} {n : Nat} (hb : n ≤ 15) (ha : h.at v = none) : h.array v (n : Int) = (noV, 20, h) := by rw [HHeap.array_eq hb]; unfold HHeap.put; rw [ha]
set_option maxHeartbeats 1000000 in
set_option maxRecDepth 100000 in
theorem harr_none {w : World} {b : Nat} {O : Nat → Prop} {h : HHeap} {G : HG} (H : HIn w b O h G) (v : HVal) (hv : v.ok) {n : Nat} (hb : n ≤ 15) (ha : h.at v = none) :
    Calls Try.prog 16 #[.pointer (some ⟨b, 0, none⟩), vAgg v, .int .i64 (n : Int)] w fun e w' => e = .returned (.tuple #[vAgg (h.array v (n : Int)).1, .int .i64 (h.array v (n : Int)).2.1]) ∧ HTo w w' b O (h.array v (n : Int)).2.2 := by
    have B0 := hidH (belAA w (.cells #[.int .i64 v.kind, .int .i64 v.region, .int .i64 v.thing, .int .i64 v.n] 37) (.cells #[.int .i64 0, .int .i64 0, .int .i64 0, .int .i64 0] 37))
    have BX := hidH (newA w #[.int .i64 v.kind, .int .i64 v.region, .int .i64 v.thing, .int .i64 v.n] 37 (.cells #[.int .i64 0, .int .i64 0, .int .i64 0, .int .i64 0] 37))
    have BR := hidH (newAA w (.cells #[.int .i64 v.kind, .int .i64 v.region, .int .i64 v.thing, .int .i64 v.n] 37) #[.int .i64 0, .int .i64 0, .int .i64 0, .int .i64 0] 37)
    have H0 := hidH H
    have H1 := hidH (H.below B0.out)
    have E : Hid (h.array v (n : Int) = (noV, 20, h)) := by
      show _ = _
      exact HHeap.array_none hb ha
    have C := hidH (hroom_none H1.out v hv ((n : Int) + 1) ha)
    have hbi : (n : Int) ≤ 15 := by omega
    have hbd : decide ((n : Int) > 15) = false := decide_eq_false (by omega)
    have hb0 : decide ((n : Int) < 0) = false := decide_eq_false (by omega)
    clear H hv
    go_enter Try.func16, Try.ntmps16
    go_upto_region 1 with fail
    generalize ((w.alloc (.cells #[.int .i64 v.kind, .int .i64 v.region, .int .i64 v.thing, .int .i64 v.n] 37)).alloc (.cells #[.int .i64 0, .int .i64 0, .int .i64 0, .int .i64 0] 37)) = w1 at B0 BX BR H1 C ⊢
    obtain ⟨X, hX⟩ : ∃ X, X = w.heap.size := ⟨_, rfl⟩
    obtain ⟨R, hR⟩ : ∃ R, R = X + 1 := ⟨_, rfl⟩
    have HR : Hid (w.heap.size ≤ R) := by show _ ≤ _; omega
    have NR : Hid (¬ O R) := fun e => by have := H0.out.lt R e; omega
    rw [← hX] at BX BR ⊢
    rw [← hR] at BR ⊢
    clear hX hR
    have x0 := cellOf BX.out 0 _ rfl
    have x1 := cellOf BX.out 1 _ rfl
    have x2 := cellOf BX.out 2 _ rfl
    have x3 := cellOf BX.out 3 _ rfl
    have r0 := hidH BR.out
    go_wp2_with fail
    refine C.out.mono ?_
    rintro e w2 ⟨rfl, b2⟩
    have HZ := hidH (H1.out.below b2)
    have SZ : Hid (Step O O w w2) := Step.of_below (B0.out.trans (b2.mono B0.out.size)) (fun k hk => .inl hk)
    have BR2 := hidH ((b2.block R (lt_of_block BR.out)).trans BR.out)
    clear x0 x1 x2 x3 r0 C b2 BX BR B0 H1 H0
    have s0 := cellOf BR2.out 0 _ rfl
    have s1 := cellOf BR2.out 1 _ rfl
    have s2 := cellOf BR2.out 2 _ rfl
    have s3 := cellOf BR2.out 3 _ rfl
    have f0 := freeOf BR2.out 0
    have f1 := freeOf BR2.out 1
    have f2 := freeOf BR2.out 2
    have f3 := freeOf BR2.out 3
    have K1 := hidH (HTo.st4 (w := w) HZ.out SZ.out (fun _ h => h) HR.out NR.out 0 0 0 0)
    have K2 := hidH (st4_blk BR2.out 0 0 0 0)
    go_wp2
    generalize ((((w2.setCell ⟨R, 0, none⟩ (.int .i64 0)).setCell ⟨R, 1, none⟩ (.int .i64 0)).setCell ⟨R, 2, none⟩ (.int .i64 0)).setCell ⟨R, 3, none⟩ (.int .i64 0)) = w99 at K1 K2 ⊢
    have e0 := cellOf K2.out 0 _ rfl
    have e1 := cellOf K2.out 1 _ rfl
    have e2 := cellOf K2.out 2 _ rfl
    have e3 := cellOf K2.out 3 _ rfl
    exact bodyPost_ret (v := .tuple #[.agg #[.int .i64 0, .int .i64 0, .int .i64 0, .int .i64 0], .int .i64 20]) (by simp [results, Try.results16, go_sem, e0, e1, e2, e3]) rfl ⟨by rw [E.out] <;> rfl, by rw [E.out]; exact K1.out⟩
set_option maxHeartbeats 1000000 in
set_option maxRecDepth 100000 in
theorem harr_full {w : World} {b : Nat} {O : Nat → Prop} {h : HHeap} {G : HG} (H : HIn w b O h G) (v : HVal) (hv : v.ok) {n : Nat} (hb : n ≤ 15) {p : HPlace} (ha : h.at v = some p) (ht : p.tight ((n : Int) + 1) = true) (hl0 : h.left = 0) (hu : 0 ≤ p.used ∧ p.used ≤ 1099511627776) :
    Calls Try.prog 16 #[.pointer (some ⟨b, 0, none⟩), vAgg v, .int .i64 (n : Int)] w fun e w' => e = .returned (.tuple #[vAgg (h.array v (n : Int)).1, .int .i64 (h.array v (n : Int)).2.1]) ∧ HTo w w' b O (h.array v (n : Int)).2.2 := by
    have B0 := hidH (belAA w (.cells #[.int .i64 v.kind, .int .i64 v.region, .int .i64 v.thing, .int .i64 v.n] 37) (.cells #[.int .i64 0, .int .i64 0, .int .i64 0, .int .i64 0] 37))
    have BX := hidH (newA w #[.int .i64 v.kind, .int .i64 v.region, .int .i64 v.thing, .int .i64 v.n] 37 (.cells #[.int .i64 0, .int .i64 0, .int .i64 0, .int .i64 0] 37))
    have BR := hidH (newAA w (.cells #[.int .i64 v.kind, .int .i64 v.region, .int .i64 v.thing, .int .i64 v.n] 37) #[.int .i64 0, .int .i64 0, .int .i64 0, .int .i64 0] 37)
    have H0 := hidH H
    have H1 := hidH (H.below B0.out)
    have E : Hid (h.array v (n : Int) = (noV, 14, h)) := by
      show _ = _
      rw [HHeap.array_eq hb]; exact HHeap.put_full _ _ ha ht hl0
    have C := hidH (hroom_full H1.out v hv ((n : Int) + 1) ha ht hl0 (by omega) hu)
    have hbi : (n : Int) ≤ 15 := by omega
    have hbd : decide ((n : Int) > 15) = false := decide_eq_false (by omega)
    have hb0 : decide ((n : Int) < 0) = false := decide_eq_false (by omega)
    clear H hv
    go_enter Try.func16, Try.ntmps16
    go_upto_region 1 with fail
    generalize ((w.alloc (.cells #[.int .i64 v.kind, .int .i64 v.region, .int .i64 v.thing, .int .i64 v.n] 37)).alloc (.cells #[.int .i64 0, .int .i64 0, .int .i64 0, .int .i64 0] 37)) = w1 at B0 BX BR H1 C ⊢
    obtain ⟨X, hX⟩ : ∃ X, X = w.heap.size := ⟨_, rfl⟩
    obtain ⟨R, hR⟩ : ∃ R, R = X + 1 := ⟨_, rfl⟩
    have HR : Hid (w.heap.size ≤ R) := by show _ ≤ _; omega
    have NR : Hid (¬ O R) := fun e => by have := H0.out.lt R e; omega
    rw [← hX] at BX BR ⊢
    rw [← hR] at BR ⊢
    clear hX hR
    have x0 := cellOf BX.out 0 _ rfl
    have x1 := cellOf BX.out 1 _ rfl
    have x2 := cellOf BX.out 2 _ rfl
    have x3 := cellOf BX.out 3 _ rfl
    have r0 := hidH BR.out
    go_wp2_with fail
    refine C.out.mono ?_
    rintro e w2 ⟨rfl, b2⟩
    have HZ := hidH (H1.out.below b2)
    have SZ : Hid (Step O O w w2) := Step.of_below (B0.out.trans (b2.mono B0.out.size)) (fun k hk => .inl hk)
    have BR2 := hidH ((b2.block R (lt_of_block BR.out)).trans BR.out)
    clear x0 x1 x2 x3 r0 C b2 BX BR B0 H1 H0
    have s0 := cellOf BR2.out 0 _ rfl
    have s1 := cellOf BR2.out 1 _ rfl
    have s2 := cellOf BR2.out 2 _ rfl
    have s3 := cellOf BR2.out 3 _ rfl
    have f0 := freeOf BR2.out 0
    have f1 := freeOf BR2.out 1
    have f2 := freeOf BR2.out 2
    have f3 := freeOf BR2.out 3
    have K1 := hidH (HTo.st4 (w := w) HZ.out SZ.out (fun _ h => h) HR.out NR.out 0 0 0 0)
    have K2 := hidH (st4_blk BR2.out 0 0 0 0)
    go_wp2
    generalize ((((w2.setCell ⟨R, 0, none⟩ (.int .i64 0)).setCell ⟨R, 1, none⟩ (.int .i64 0)).setCell ⟨R, 2, none⟩ (.int .i64 0)).setCell ⟨R, 3, none⟩ (.int .i64 0)) = w99 at K1 K2 ⊢
    have e0 := cellOf K2.out 0 _ rfl
    have e1 := cellOf K2.out 1 _ rfl
    have e2 := cellOf K2.out 2 _ rfl
    have e3 := cellOf K2.out 3 _ rfl
    exact bodyPost_ret (v := .tuple #[.agg #[.int .i64 0, .int .i64 0, .int .i64 0, .int .i64 0], .int .i64 14]) (by simp [results, Try.results16, go_sem, e0, e1, e2, e3]) rfl ⟨by rw [E.out] <;> rfl, by rw [E.out]; exact K1.out⟩
set_option maxHeartbeats 1000000 in
set_option maxRecDepth 100000 in
theorem harr_ok {w : World} {b : Nat} {O : Nat → Prop} {h : HHeap} {G : HG} (H : HIn w b O h G) (v : HVal) (hv : v.ok) {n : Nat} (hb : n ≤ 15) {p : HPlace} (ha : h.at v = some p) {k : Nat} (hkv : v.region = k) (hok : ¬ (p.tight ((n : Int) + 1) = true ∧ h.left = 0)) (hu : 0 ≤ p.used ∧ p.used ≤ 1099511627776) (hpp : p.pages ≤ 1099511627776) (hll : h.left ≤ 1099511627776) (hpl : p.l.length ≤ 1099511627776) :
    Calls Try.prog 16 #[.pointer (some ⟨b, 0, none⟩), vAgg v, .int .i64 (n : Int)] w fun e w' => e = .returned (.tuple #[vAgg (h.array v (n : Int)).1, .int .i64 (h.array v (n : Int)).2.1]) ∧ HTo w w' b O (h.array v (n : Int)).2.2 := by
    have B0 := hidH (belAA w (.cells #[.int .i64 v.kind, .int .i64 v.region, .int .i64 v.thing, .int .i64 v.n] 37) (.cells #[.int .i64 0, .int .i64 0, .int .i64 0, .int .i64 0] 37))
    have BX := hidH (newA w #[.int .i64 v.kind, .int .i64 v.region, .int .i64 v.thing, .int .i64 v.n] 37 (.cells #[.int .i64 0, .int .i64 0, .int .i64 0, .int .i64 0] 37))
    have BR := hidH (newAA w (.cells #[.int .i64 v.kind, .int .i64 v.region, .int .i64 v.thing, .int .i64 v.n] 37) #[.int .i64 0, .int .i64 0, .int .i64 0, .int .i64 0] 37)
    have H0 := hidH H
    have H1 := hidH (H.below B0.out)
    have E : Hid (h.array v (n : Int) = (⟨4, k, p.l.length, 0⟩, 0, ⟨h.L.set k { p.roomed ((n : Int) + 1) with l := p.l ++ [⟨true, nots n⟩] }, h.roomLeft p ((n : Int) + 1)⟩)) := by
      show _ = _
      rw [HHeap.array_eq hb]
      exact HHeap.put_ok _ _ ha hkv hok
    have C := hidH (hroom_ok H1.out v hv ((n : Int) + 1) ha hkv hok (by omega) hu hpp hll)
    have hbi : (n : Int) ≤ 15 := by omega
    have hbd : decide ((n : Int) > 15) = false := decide_eq_false (by omega)
    have hb0 : decide ((n : Int) < 0) = false := decide_eq_false (by omega)
    obtain ⟨-, -, k', hvk, hLk, hth⟩ := HHeap.at_some ha
    have ek : k' = k := by omega
    subst ek
    have HLK := hidH hLk
    have HTH := hidH hth
    have HKV := hidH hkv
    clear H hv ha hok hvk hLk hth hkv
    go_enter Try.func16, Try.ntmps16
    go_upto_region 1 with fail
    generalize ((w.alloc (.cells #[.int .i64 v.kind, .int .i64 v.region, .int .i64 v.thing, .int .i64 v.n] 37)).alloc (.cells #[.int .i64 0, .int .i64 0, .int .i64 0, .int .i64 0] 37)) = w1 at B0 BX BR H1 C ⊢
    obtain ⟨X, hX⟩ : ∃ X, X = w.heap.size := ⟨_, rfl⟩
    obtain ⟨R, hR⟩ : ∃ R, R = X + 1 := ⟨_, rfl⟩
    have HR : Hid (w.heap.size ≤ R) := by show _ ≤ _; omega
    have NR : Hid (¬ O R) := fun e => by have := H0.out.lt R e; omega
    rw [← hX] at BX BR ⊢
    rw [← hR] at BR ⊢
    clear hX hR
    have x0 := cellOf BX.out 0 _ rfl
    have x1 := cellOf BX.out 1 _ rfl
    have x2 := cellOf BX.out 2 _ rfl
    have x3 := cellOf BX.out 3 _ rfl
    have r0 := hidH BR.out
    go_wp2_with fail
    refine C.out.mono ?_
    rintro e w2 ⟨rfl, h2, s2⟩
    have HZ := hidH h2
    have SZ : Hid (Step O O w w2) := (Step.of_below (O := O) B0.out (fun k hk => .inl hk)).trans s2
    have HR1 : Hid (R < w1.heap.size) := lt_of_block BR.out
    have HNO : Hid (¬ O R) := NR.out
    have BR2 := hidH ((s2.block R (lt_of_block BR.out) NR.out).trans BR.out)
    clear x0 x1 x2 x3 r0 C h2 BX BR H1
    go_wp2_with fail
    refine (hrepeat_any (blockNew w2 #[.int .i64 1, .int .i64 0, .int .i64 0, .int .i64 0] 37) 1 n hb).mono ?_
    rintro e w3 ⟨g, rfl, hg0, hrow, b30⟩
    have b3 : Below w2.heap.size w2 w3 := (belA w2 _).trans (b30.mono (by simp))
    have hg : w2.heap.size ≤ g := Nat.le_trans (by simp) hg0
    clear hg0 b30
    have HROW := hidH hrow
    have HB3 := hidH b3
    have HG := hidH hg
    have hp2 : (⟨h.L.set k' (p.roomed ((n : Int) + 1)), h.roomLeft p ((n : Int) + 1)⟩ : HHeap).L[k']? = some (p.roomed ((n : Int) + 1)) := by
      have := (List.getElem?_eq_some_iff.1 HLK.out).1
      simp [this]
    have ht2 : (p.roomed ((n : Int) + 1)).there = true := by rw [HPlace.roomed_there]; exact HTH.out
    obtain ⟨tv, pv, RI⟩ := (HZ.out.below b3).reg k' _ hp2 ht2
    have PA : PartsAt w3 (.slice (some ⟨g, 0, none⟩) (⟨true, nots n⟩ : HThing).l.length n) (⟨true, nots n⟩ : HThing).l := by
      have hlen : (nots n).length = n := by simp
      refine ⟨⟨_, _, rfl⟩, fun _ => ⟨g, n, rfl, ?_⟩⟩
      show w3.rowIs g _ ((nots n).length * 4) _
      rw [hlen]; exact HROW.out
    have pb : ∀ x, pblk (.slice (some ⟨g, 0, none⟩) (⟨true, nots n⟩ : HThing).l.length n) ⟨true, nots n⟩ x → w2.heap.size ≤ x := fun x hx => by
      have := ownBlock_slice.1 hx.2
      have := HG.out
      omega
    have CA := hadd_any RI PA (fun x hx hS => by have := HZ.out.lt x (HZ.out.os k' x hS).1; have := pb x hx; omega) (fun x hx => Nat.lt_of_lt_of_le (HZ.out.lt x (HZ.out.os k' x hx).1) HB3.out.size) (by rw [HPlace.roomed_l]; exact hpl)
    rw [show (⟨true, nots n⟩ : HThing).l.length = n by show (nots n).length = n; simp, HPlace.roomed_l] at CA
    have HCA : Hid (Calls Try.prog 30 #[.pointer (some ⟨G.g k', 0, none⟩), .int .i64 4, .slice (some ⟨g, 0, none⟩) n n] w3 fun e w' => e = .returned (.agg #[.int .i64 4, .int .i64 k', .int .i64 p.l.length, .int .i64 0]) ∧ ∃ O' G', HIn w' b O' ⟨h.L.set k' { p.roomed ((n : Int) + 1) with l := p.l ++ [⟨true, nots n⟩] }, h.roomLeft p ((n : Int) + 1)⟩ G' ∧ Step O O' w2 w' ∧ (∀ x, O x → O' x) ∧ (∀ x, O' x → O x ∨ w2.heap.size ≤ x)) := by
      refine CA.mono ?_
      rintro e w4 ⟨rfl, hadd⟩
      refine ⟨rfl, ?_⟩
      have hlen : (⟨true, nots n⟩ : HThing).l.length = n := by show (nots n).length = n; simp
      have AD := HZ.out.added (w4 := w4) HB3.out hp2 ht2 (t := ⟨true, nots n⟩) (va := some ⟨g, 0, none⟩) (vc := n) pb (by rw [hlen, HPlace.roomed_l]; exact hadd)
      rw [HPlace.roomed_l] at AD
      simpa only [List.set_set] using AD
    have BR2' := hidH BR2.out
    have BR3 := hidH ((b3.block R (by have := HR1.out; have := s2.size; omega)).trans BR2.out)
    have HW2 : Hid (R < w2.heap.size) := Nat.lt_of_lt_of_le HR1.out s2.size
    clear hrow hg b3 RI PA pb CA hp2 ht2 HROW HG BR2 HLK HTH HKV s2 HZ B0 H0 HR1 hb hu hpp hll hpl
    go_wp2_with fail
    refine HCA.out.mono ?_
    rintro e w4 ⟨rfl, O', G', h4, s4, o4, n4⟩
    have NR4 : ¬ O' R := fun e => by
      rcases n4 R e with h | h
      · exact HNO.out h
      · have := HW2.out; omega
    have BR4 := hidH ((s4.block R HW2.out HNO.out).trans BR2'.out)
    have K1 := hidH (HTo.st4 h4 (SZ.out.trans s4) (fun x hx => o4 x hx) HR.out NR4 4 (k' : Int) (p.l.length : Int) 0)
    have K2 := hidH (st4_blk BR4.out 4 (k' : Int) (p.l.length : Int) 0)
    have s0 := cellOf BR4.out 0 _ rfl
    have s1 := cellOf BR4.out 1 _ rfl
    have s2 := cellOf BR4.out 2 _ rfl
    have s3 := cellOf BR4.out 3 _ rfl
    have f0 := freeOf BR4.out 0
    have f1 := freeOf BR4.out 1
    have f2 := freeOf BR4.out 2
    have f3 := freeOf BR4.out 3
    clear h4 s4 o4 n4 NR4 HCA HB3 BR3
    go_wp2
    generalize ((((w4.setCell ⟨R, 0, none⟩ (.int .i64 4)).setCell ⟨R, 1, none⟩ (.int .i64 (k' : Int))).setCell ⟨R, 2, none⟩ (.int .i64 (p.l.length : Int))).setCell ⟨R, 3, none⟩ (.int .i64 0)) = w99 at K1 K2 ⊢
    have e0 := cellOf K2.out 0 _ rfl
    have e1 := cellOf K2.out 1 _ rfl
    have e2 := cellOf K2.out 2 _ rfl
    have e3 := cellOf K2.out 3 _ rfl
    exact bodyPost_ret (v := .tuple #[.agg #[.int .i64 4, .int .i64 k', .int .i64 p.l.length, .int .i64 0], .int .i64 0]) (by simp [results, Try.results16, go_sem, e0, e1, e2, e3]) rfl ⟨by rw [E.out] <;> rfl, by rw [E.out]; exact K1.out⟩
end Go.Proofs.Ytjhdpajpibdnaae
