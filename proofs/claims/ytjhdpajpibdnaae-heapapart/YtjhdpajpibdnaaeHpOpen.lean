/-
  Package heap: New, Pages, Live, Open, Shut.
-/
import Derived.Test.YtjhdpajpibdnaaeHpSet
namespace Go.Proofs.Ytjhdpajpibdnaae
open Go.ChangeShapes Go.WideShapes Go.ChangeAt Go.RowKit
set_option linter.unusedVariables false
set_option linter.unusedSimpArgs false
set_option maxHeartbeats 1000000 in
set_option maxRecDepth 100000 in
theorem hnew_any (w : World) (n : Nat) : Calls Try.prog 7 #[.int .i64 n] w fun e w' => e = .returned (.pointer (some ⟨w.heap.size + 1, 0, none⟩)) ∧ HIn w' (w.heap.size + 1) (fun x => x = w.heap.size ∨ x = w.heap.size + 1) (HHeap.new n) ⟨w.heap.size, .map [], fun _ => 0, fun _ _ => False⟩ ∧ Below w.heap.size w w' := by
  have hmm := @run_makeMap Try.prog
  have Q : Hid (HIn ((w.alloc (.map #[] 0)).alloc (.cells #[.int .i64 n, .int .i64 0, .map (some w.heap.size)] 68)) (w.heap.size + 1) (fun x => x = w.heap.size ∨ x = w.heap.size + 1) (HHeap.new n) ⟨w.heap.size, .map [], fun _ => 0, fun _ _ => False⟩) := by
    refine ⟨newAA w _ _ _, (World.ownsMap_made w _ _ _).alloc _, rfl, fun k hk => ?_, fun k p hk hp => ?_, fun k p hk => by simp [HHeap.new] at hk, fun _ _ _ h => h.elim, .inr rfl, .inl rfl, fun _ _ h => h.elim, fun x hx => by simp; omega⟩
    · unfold HHeap.place; simp [HHeap.new, Maps.has]
    · unfold HHeap.place at hp; simp [HHeap.new] at hp
  have BL := hidH (belAA w (.map #[] 0) (.cells #[.int .i64 n, .int .i64 0, .map (some w.heap.size)] 68))
  go_enter Try.func7, Try.ntmps7
  go_wp2
  go_ret
  exact ⟨rfl, Q.out, BL.out⟩
set_option maxHeartbeats 1000000 in
set_option maxRecDepth 100000 in
theorem hpages_any {w : World} {b : Nat} {O : Nat → Prop} {h : HHeap} {G : HG} (H : HIn w b O h G) : Calls Try.prog 24 #[.pointer (some ⟨b, 0, none⟩)] w fun e w' => e = .returned (.int .i64 h.left) ∧ w' = w := by
  have t0 := cellOf H.top 0 _ rfl
  clear H
  go_enter Try.func24, Try.ntmps24
  go_wp2
  go_ret
  exact ⟨rfl, rfl⟩
set_option maxHeartbeats 1000000 in
set_option maxRecDepth 100000 in
theorem hlive_any {w : World} {b : Nat} {O : Nat → Prop} {h : HHeap} {G : HG} (H : HIn w b O h G) : Calls Try.prog 25 #[.pointer (some ⟨b, 0, none⟩)] w fun e w' => e = .returned (.int .i64 h.live) ∧ w' = w := by
  have t2 := cellOf H.top 2 _ rfl
  have hl := fun ty => H.map.len Try.underlying66 ty
  rw [H.size] at hl
  clear H
  generalize G.bm = bm at hl t2
  go_enter Try.func25, Try.ntmps25
  go_wp2
  go_ret
  exact ⟨rfl, rfl⟩
/-- What a function that may make memory comes to: the heap in a new state, its blocks among the old ones and new ones. -/
def HTo (w w' : World) (b : Nat) (O : Nat → Prop) (h' : HHeap) : Prop := ∃ O' G', HIn w' b O' h' G' ∧ Step O O' w w' ∧ ∀ x, O x → O' x
theorem HTo.same {w w' : World} {b : Nat} {O : Nat → Prop} {h : HHeap} {G : HG} (H : HIn w' b O h G) (hb : Below w.heap.size w w') : HTo w w' b O h := ⟨O, G, H, Step.of_below hb (fun k hk => .inl hk), fun _ h => h⟩
set_option maxHeartbeats 1000000 in
set_option maxRecDepth 100000 in
theorem HTo.st4 {w w' : World} {b R : Nat} {O O' : Nat → Prop} {h : HHeap} {G : HG} (H : HIn w' b O' h G) (st : Step O O' w w') (ho : ∀ x, O x → O' x) (hR : w.heap.size ≤ R) (hn : ¬ O' R) (x0 x1 x2 x3 : Int) : HTo w ((((w'.setCell ⟨R, 0, none⟩ (.int .i64 x0)).setCell ⟨R, 1, none⟩ (.int .i64 x1)).setCell ⟨R, 2, none⟩ (.int .i64 x2)).setCell ⟨R, 3, none⟩ (.int .i64 x3)) b O h :=
  ⟨O', G, H.keep (by simp) (fun x hx _ => st4_other (fun (e : x = R) => hn (by rw [← e]; exact hx)) x0 x1 x2 x3), st4_step st hR x0 x1 x2 x3, ho⟩
set_option maxHeartbeats 1000000 in
set_option maxRecDepth 100000 in
theorem hopen_any {w : World} {b : Nat} {O : Nat → Prop} {h : HHeap} {G : HG} (H : HIn w b O h G) (hL : h.L.length ≤ 4611686018427387904) (hlive : h.live ≤ 16) :
    Calls Try.prog 9 #[.pointer (some ⟨b, 0, none⟩)] w fun e w' => e = .returned (.tuple #[vAgg h.open_.1, .bool h.open_.2.1]) ∧ HTo w w' b O h.open_.2.2 := by
  have B0 := hidH (belA w (.cells #[.int .i64 0, .int .i64 0, .int .i64 0, .int .i64 0] 37))
  have H1 := hidH (H.below B0.out)
  have hl := fun ty => H1.out.map.len Try.underlying66 ty
  rw [H1.out.size] at hl
  have t1 := cellOf H1.out.top 1 _ rfl
  have t2 := cellOf H1.out.top 2 _ rfl
  by_cases h16 : h.live = 16
  · have E : Hid (h.open_ = (noV, false, h)) := by show _ = _; unfold HHeap.open_; rw [if_pos (by omega)]
    have Q := hidH (HTo.same H1.out B0.out)
    rw [h16] at hl
    clear H H1 B0 hlive h16 hL t1
    generalize G.bm = bm at hl t2
    go_enter Try.func9, Try.ntmps9
    go_wp2
    exact bodyPost_ret (v := .tuple #[.agg #[.int .i64 0, .int .i64 0, .int .i64 0, .int .i64 0], .bool false]) (by simp [results, Try.results9, go_sem]) rfl ⟨by rw [E.out]; rfl, by rw [E.out]; exact Q.out⟩
  · have E : Hid (h.open_ = (⟨2, h.L.length, 0, 0⟩, true, { h with L := h.L ++ [newP] })) := by show _ = _; unfold HHeap.open_; rw [if_neg (by omega)]
    have BR := hidH (blockNew w #[.int .i64 0, .int .i64 0, .int .i64 0, .int .i64 0] 37)
    have hd : ((h.live : Int) == 16) = false := by simp; omega
    have H0 := hidH H
    have HLV := hidH hlive
    clear H hlive h16
    go_enter Try.func9, Try.ntmps9
    go_upto_region 1 with fail
    generalize w.alloc (.cells #[.int .i64 0, .int .i64 0, .int .i64 0, .int .i64 0] 37) = w1 at B0 H1 hl t1 t2 BR ⊢
    obtain ⟨R, hR⟩ : ∃ R, R = w.heap.size := ⟨_, rfl⟩
    have HR : Hid (w.heap.size ≤ R) := by show _ ≤ _; omega
    rw [← hR] at BR ⊢
    clear hR
    have T1 := hidH t1
    go_upto_region 4 with fail
    have B1 := hidH (B0.out.alloc B0.out.size (.cells #[.int .i64 (h.L.length : Int), .int .i64 0, .int .i64 0, .slice none 0 0] 72))
    have b1 := belA w1 (.cells #[.int .i64 (h.L.length : Int), .int .i64 0, .int .i64 0, .slice none 0 0] 72)
    have H2 := hidH (H1.out.below b1)
    have BG := hidH (blockNew w1 #[.int .i64 (h.L.length : Int), .int .i64 0, .int .i64 0, .slice none 0 0] 72)
    have BR2 := hidH ((b1.block R (lt_of_block BR.out)).trans BR.out)
    have HG : Hid (w.heap.size ≤ w1.heap.size) := B0.out.size
    have HRG : Hid (R < w1.heap.size) := lt_of_block BR.out
    generalize w1.alloc (.cells #[.int .i64 (h.L.length : Int), .int .i64 0, .int .i64 0, .slice none 0 0] 72) = w2 at B1 H2 BG BR2 ⊢
    generalize w1.heap.size = g at BG HG HRG ⊢
    clear t1 t2 hl T1 BR H1 B0 b1
    have t1 := cellOf H2.out.top 1 _ rfl
    have t2 := cellOf H2.out.top 2 _ rfl
    have g0 := cellOf BG.out 0 _ rfl
    have h64 : is64 h.L.length := ⟨by omega, by omega⟩
    obtain ⟨w3, hrun, m1, m2⟩ := H2.out.drew.map.store (val := .pointer (some ⟨g, 0, none⟩)) hKeyed Try.underlying66 (by rw [H2.out.size]; have := HLV.out; unfold maxLen; omega) (Maps.keyOf_int_mk Try.underlying3 (wf64 h64)) (show pelem _ = some (.lit (.int .i64 (g : Int)), []) from rfl)
    have M1 := hidH m1
    have M2 := hidH m2
    have HL := hidH hL
    have H64 := hidH h64
    clear m1 m2
    have key : Hid (w3.cell? ⟨b, 1, none⟩ = some (.int .i64 (h.L.length : Int)) ∧ w3.frozen? ⟨b, 1, none⟩ = false ∧ w3.cell? ⟨g, 0, none⟩ = some (.int .i64 (h.L.length : Int)) ∧ w3.heap[R]? = some (.cells #[.int .i64 0, .int .i64 0, .int .i64 0, .int .i64 0] 37 (0, 0)) ∧ HTo w (((((w3.setCell ⟨b, 1, none⟩ (.int .i64 ((h.L.length : Int) + 1))).setCell ⟨R, 0, none⟩ (.int .i64 2)).setCell ⟨R, 1, none⟩ (.int .i64 (h.L.length : Int))).setCell ⟨R, 2, none⟩ (.int .i64 0)).setCell ⟨R, 3, none⟩ (.int .i64 0)) b O { h with L := h.L ++ [newP] } ∧ R ≠ b ∧ g ≠ b ∧ (((((w3.setCell ⟨b, 1, none⟩ (.int .i64 ((h.L.length : Int) + 1))).setCell ⟨R, 0, none⟩ (.int .i64 2)).setCell ⟨R, 1, none⟩ (.int .i64 (h.L.length : Int))).setCell ⟨R, 2, none⟩ (.int .i64 0)).setCell ⟨R, 3, none⟩ (.int .i64 0)).heap[R]? = some (.cells #[.int .i64 2, .int .i64 (h.L.length : Int), .int .i64 0, .int .i64 0] 37 (0, 0))) := by
      have gr := M2.out.grown
      have st : ∀ x, x < w2.heap.size → x ≠ G.bm → w3.heap[x]? = w2.heap[x]? := fun x h1 h2 => gr.block x h1 (fun e => h2 (by simpa using e))
      have hml := H2.out.map.lt
      have hbl := lt_of_block H2.out.top
      have hmo := H0.out.map.lt
      have hbo := lt_of_block H0.out.top
      have e1 : w3.heap[b]? = _ := (st b hbl H2.out.bne).trans H2.out.top
      have hgw := HG.out
      have hRw := HR.out
      have hRg := HRG.out
      have e2 : w3.heap[g]? = _ := (st g (lt_of_block BG.out) (by omega)).trans BG.out
      have e3 : w3.heap[R]? = _ := (st R (lt_of_block BR2.out) (by omega)).trans BR2.out
      have Q := H0.out.more (w1 := w3) H64.out HG.out e2 M1.out (fun x hx hn => (st x (Nat.lt_of_lt_of_le hx B1.out.size) hn).trans (B1.out.block x hx)) (Nat.le_trans B1.out.size gr.size)
      rw [show ((h.L.length + 1 : Nat) : Int) = (h.L.length : Int) + 1 by omega] at Q
      refine ⟨cellOf e1 1 _ rfl, freeOf e1 1, cellOf e2 0 _ rfl, e3, ?_, by omega, by omega, st4_blk ((Below.heap_setCell _ _ _ _ (show R ≠ b by omega)).trans e3) _ _ _ _⟩
      refine HTo.st4 Q ⟨gr.os.trans B1.out.os, gr.tape.trans B1.out.tape, gr.output.trans B1.out.output, by have h1 := gr.size; have h2 := B1.out.size; exact Nat.le_trans (Nat.le_trans h2 h1) (by simp), fun k hk hn => ?_, fun k hk => hk.elim .inl (fun e => .inr (by omega))⟩ (fun x hx => .inl hx) hRw (fun e => e.elim (fun e => by have := H0.out.lt R e; omega) (fun e => by omega)) _ _ _ _
      have hkb : k ≠ b := fun e => hn (e ▸ H0.out.ob)
      have hkm : k ≠ G.bm := fun e => hn (e ▸ H0.out.om)
      rw [Below.heap_setCell _ _ _ _ hkb]
      exact (st k (Nat.lt_of_lt_of_le hk B1.out.size) hkm).trans (B1.out.block k hk)
    clear M1 M2 H2 B1 H0 BG BR2 h64 hd
    generalize G.bm = bm at *
    go_region
    clear hrun t1 t2 g0
    obtain ⟨k1, k2, k3, k4, k6, k7, k8, k9⟩ := key.out
    have K6 := hidH k6
    have K9 := hidH k9
    have r0 := cellOf k4 0 _ rfl
    have r1 := cellOf k4 1 _ rfl
    have r2 := cellOf k4 2 _ rfl
    have r3 := cellOf k4 3 _ rfl
    have f0 := freeOf k4 0
    have f1 := freeOf k4 1
    have f2 := freeOf k4 2
    have f3 := freeOf k4 3
    clear k4 k6 k9 key
    go_wp2
    generalize (((((w3.setCell ⟨b, 1, none⟩ (.int .i64 ((h.L.length : Int) + 1))).setCell ⟨R, 0, none⟩ (.int .i64 2)).setCell ⟨R, 1, none⟩ (.int .i64 (h.L.length : Int))).setCell ⟨R, 2, none⟩ (.int .i64 0)).setCell ⟨R, 3, none⟩ (.int .i64 0)) = w99 at K6 K9 ⊢
    have e0 := cellOf K9.out 0 _ rfl
    have e1 := cellOf K9.out 1 _ rfl
    have e2 := cellOf K9.out 2 _ rfl
    have e3 := cellOf K9.out 3 _ rfl
    exact bodyPost_ret (v := .tuple #[.agg #[.int .i64 2, .int .i64 (h.L.length : Int), .int .i64 0, .int .i64 0], .bool true]) (by simp [results, Try.results9, go_sem, e0, e1, e2, e3]) rfl ⟨by rw [E.out], by rw [E.out]; exact K6.out⟩
end Go.Proofs.Ytjhdpajpibdnaae
