/-
  Package heap: add, bareAll.
-/
import Derived.Test.YtjhdpajpibdnaaeHpRoom
namespace Go.Proofs.Ytjhdpajpibdnaae
open Go.ChangeShapes Go.WideShapes Go.ChangeAt Go.RowKit
set_option linter.unusedVariables false
set_option linter.unusedSimpArgs false
theorem hInfoT : ∃ i, Try.prog.info? 94 = some i ∧ i.zero = some (.agg #[.int .i64 0, .slice none 0 0]) ∧ i.size = 2 ∧ i.bytes = 32 := by
  have h : (Try.prog.info? 94).map (fun i => (i.zero, i.size, i.bytes)) = some (some (.agg #[.int .i64 0, .slice none 0 0]), 2, 32) := by kernel_rfl
  obtain ⟨i, hi, e⟩ := Option.map_eq_some_iff.1 h
  simp only [Prod.mk.injEq] at e
  exact ⟨i, hi, e⟩
theorem hInfoV : ∃ i, Try.prog.info? 37 = some i ∧ i.zero = some (.agg #[.int .i64 0, .int .i64 0, .int .i64 0, .int .i64 0]) ∧ i.size = 4 ∧ i.bytes = 32 := by
  have h : (Try.prog.info? 37).map (fun i => (i.zero, i.size, i.bytes)) = some (some (.agg #[.int .i64 0, .int .i64 0, .int .i64 0, .int .i64 0]), 4, 32) := by kernel_rfl
  obtain ⟨i, hi, e⟩ := Option.map_eq_some_iff.1 h
  simp only [Prod.mk.injEq] at e
  exact ⟨i, hi, e⟩
theorem hUnderTs : Try.prog.underlying 70 = some (.slice 94) := by kernel_rfl
theorem hUnderVs : Try.prog.underlying 45 = some (.slice 37) := by kernel_rfl
theorem newsH (w : World) (c : List Value) (t : TypeId) : ∀ (j : Nat) (u : Value), c[j]? = some u → (w.alloc (.cells c.toArray t)).cell? ((⟨w.heap.size, 0, none⟩ : Addr).add j) = some u := by
  intro j u h
  have h2 : c.toArray[j]? = some u := by simpa using h
  rw [Go.WideShapes.add_plain, Nat.zero_add]
  exact cellOf (blockNew w c.toArray t) j u h2
theorem oneKV (k : Int) (a : Option Addr) (n c : Nat) : ∀ u ∈ [Value.int .i64 k, .slice a n c], u.oneCell' = true := by
  intro u hu
  simp at hu
  rcases hu with rfl | rfl <;> rfl
set_option maxHeartbeats 1000000 in
set_option maxRecDepth 100000 in
theorem hadd_any {w : World} {gk k : Nat} {p : HPlace} {S : Nat → Prop} {tv : Value} {pv : Nat → Value} (R : RegIn w gk k p S tv pv) {t : HThing} {va : Option Addr} {vc : Nat} (hv : PartsAt w (.slice va t.l.length vc) t.l) (hn : ∀ x, pblk (.slice va t.l.length vc) t x → ¬ S x) (hS : ∀ x, S x → x < w.heap.size) (hpl : p.l.length ≤ 1099511627776) :
    Calls Try.prog 30 #[.pointer (some ⟨gk, 0, none⟩), .int .i64 t.knd, .slice va t.l.length vc] w fun e w' => e = .returned (vAgg ⟨t.knd, k, p.l.length, 0⟩) ∧ ∃ S', RegAt w' gk k { p with l := p.l ++ [t] } S' ∧ (∀ x, S x → S' x) ∧ (∀ x, S' x → S x ∨ w.heap.size ≤ x ∨ pblk (.slice va t.l.length vc) t x) ∧ (∀ x, S' x → x < w'.heap.size) ∧ Step S S w w' := by
  obtain ⟨i0, hi, hz0, hz1, hz2⟩ := hInfoT
  obtain ⟨ta, tc, rfl⟩ : ∃ a c, tv = .slice a p.l.length c := by
    rcases R.row.2 with ⟨e, e0⟩ | ⟨g, cap, cur, e, _⟩
    · exact ⟨none, 0, by rw [e, e0]⟩
    · exact ⟨_, _, e⟩
  have B0 := hidH (belA w (.cells #[.int .i64 0, .int .i64 0, .int .i64 0, .int .i64 0] 37))
  have BR := hidH (blockNew w #[.int .i64 0, .int .i64 0, .int .i64 0, .int .i64 0] 37)
  have HR := hidH R
  have HRb := hidH (R.keep (w' := w.alloc (.cells #[.int .i64 0, .int .i64 0, .int .i64 0, .int .i64 0] 37)) (fun x _ hx => B0.out.block x hx))
  have HV := hidH hv
  have HN := hidH hn
  have HS := hidH hS
  have HTN : Hid (∀ w9 g2 cap2, w9.ownsRow 0 94 2 (.slice (some ⟨g2, 0, none⟩) (p.l.length + 1) cap2) (p.l.length + 1) (tflat pv p.l 0 ++ [.int .i64 t.knd, .slice va t.l.length vc]) → ((w.alloc (.cells #[.int .i64 0, .int .i64 0, .int .i64 0, .int .i64 0] 37)).alloc (.cells #[.int .i64 t.knd, .slice va t.l.length vc] 94)).grownBy w9 (Value.slice ta p.l.length tc).ownBlock → ((Value.slice ta p.l.length tc).ownBlock = some g2 ∨ g2 = w.heap.size + 2) → g2 < w9.heap.size →
      (w9.heap[gk]? = some (.cells #[.int .i64 k, .int .i64 p.pages, .int .i64 p.used, .slice ta p.l.length tc] 72 (0, 0))) ∧ (w9.setCell ⟨gk, 3, none⟩ (.slice (some ⟨g2, 0, none⟩) (p.l.length + 1) cap2)).heap[gk]? = some (.cells #[.int .i64 k, .int .i64 p.pages, .int .i64 p.used, .slice (some ⟨g2, 0, none⟩) (p.l.length + 1) cap2] 72 (0, 0)) ∧ w9.heap[w.heap.size]? = some (.cells #[.int .i64 0, .int .i64 0, .int .i64 0, .int .i64 0] 37 (0, 0)) ∧ gk ≠ w.heap.size ∧
      ∃ S', RegAt (w9.setCell ⟨gk, 3, none⟩ (.slice (some ⟨g2, 0, none⟩) (p.l.length + 1) cap2)) gk k { p with l := p.l ++ [t] } S' ∧ (∀ x, S x → S' x) ∧ (∀ x, S' x → S x ∨ w.heap.size < x ∨ pblk (.slice va t.l.length vc) t x) ∧ (∀ x, S' x → x < w9.heap.size) ∧ Step S S w (w9.setCell ⟨gk, 3, none⟩ (.slice (some ⟨g2, 0, none⟩) (p.l.length + 1) cap2))) := by
    intro w9 g2 cap2 r1 r2 r3 r4
    have bb := belAA w (.cells #[.int .i64 0, .int .i64 0, .int .i64 0, .int .i64 0] 37) (.cells #[.int .i64 t.knd, .slice va t.l.length vc] 94)
    have hR := newA w #[.int .i64 0, .int .i64 0, .int .i64 0, .int .i64 0] 37 (.cells #[.int .i64 t.knd, .slice va t.l.length vc] 94)
    have hsz : ((w.alloc (.cells #[.int .i64 0, .int .i64 0, .int .i64 0, .int .i64 0] 37)).alloc (.cells #[.int .i64 t.knd, .slice va t.l.length vc] 94)).heap.size = w.heap.size + 2 := by simp
    generalize (w.alloc (.cells #[.int .i64 0, .int .i64 0, .int .i64 0, .int .i64 0] 37)).alloc (.cells #[.int .i64 t.knd, .slice va t.l.length vc] 94) = w2 at r2 bb hR hsz
    have R2 := HR.out.keep (fun x _ hx => bb.block x hx)
    have V2 := HV.out.keep (w' := w2) (fun x hx => bb.block x (HV.out.lt hx))
    have g3 : (Value.slice ta p.l.length tc).ownBlock = some g2 ∨ w2.heap.size ≤ g2 := r3.imp id (fun e => by omega)
    have A := R2.add V2 HN.out r1 r2 g3
    have hgk : gk < w.heap.size := HS.out gk R2.ob
    have e1 : w9.heap[gk]? = _ := (r2.block gk (lt_of_block R2.box) (fun e => R2.rowNe e.symm rfl)).trans R2.box
    refine ⟨e1, A.box, ?_, by omega, _, ⟨_, _, A⟩, fun x hx => .inl hx, ?_, ?_, ?_⟩
    · refine (r2.block w.heap.size (lt_of_block hR) (fun e => ?_)).trans hR
      have := HS.out _ (R2.ot _ e.symm)
      omega
    · rintro x (hx | rfl | hx)
      · exact .inl hx
      · rcases r3 with e | e
        · exact .inl (R2.ot _ e)
        · exact .inr (.inl (by omega))
      · exact .inr (.inr hx)
    · have hs9 := r2.size
      rintro x (hx | rfl | hx)
      · have := HS.out x hx; omega
      · exact r4
      · have := HV.out.lt hx; omega
    · refine ⟨r2.os.trans bb.os, r2.tape.trans bb.tape, r2.output.trans bb.output, Nat.le_trans bb.size (Nat.le_trans r2.size (by simp)), fun x hx hnx => ?_, fun x hx => .inl hx⟩
      have hxk : x ≠ gk := fun e => hnx (e ▸ R2.ob)
      rw [Below.heap_setCell _ _ _ _ hxk]
      exact (r2.block x (by omega) (fun e => hnx (R2.ot x e.symm))).trans (bb.block x hx)
  have how := hidH (HRb.out.row.alloc (.cells #[.int .i64 t.knd, .slice va t.l.length vc] 94))
  have q3 := cellOf HRb.out.box 3 _ rfl
  have HVL0 : Hid (∀ x, pblk (.slice va t.l.length vc) t x → x < w.heap.size) := fun x hx => HV.out.lt hx
  clear R hv hn hS
  have HSS := hidH HS.out
  clear HR HRb HV HN HS
  have HX : Hid (w.heap.size + 1 = (w.alloc (.cells #[.int .i64 0, .int .i64 0, .int .i64 0, .int .i64 0] 37)).heap.size) := by show _ = _; simp
  generalize htk : t.knd = tk at *
  generalize htl : t.l.length = tl at *
  generalize hpn : p.l.length = tn at *
  generalize hxs : tflat pv p.l 0 = xs at *
  go_enter Try.func30, Try.ntmps30
  go_upto_region 1 with fail
  generalize w.alloc (.cells #[.int .i64 0, .int .i64 0, .int .i64 0, .int .i64 0] 37) = w1 at *
  have hle : tn ≤ 1099511627776 := hpl
  go_wp2_with (at_builtin; refine wpList_append_lies _ rfl (.tmp 11) (.tmp 15) 70 rfl 0 94 i0 (.agg #[.int .i64 0, .slice none 0 0]) 2 32 hUnderTs hi hz0 hz1 hz2 rfl (by decide) _ _ _ rfl how.out ⟨w1.heap.size, 0, none⟩ 1 1 [.int .i64 tk, .slice va tl vc] rfl rfl (newsH _ [_, _] _) (oneKV _ _ _ _) (by decide) (by unfold maxLen; omega) (by omega) (Nat.zero_le _) (w.heap.size + 2) (by have := HX.out; simp; omega) ?_)
  intro g2 cap2 w9 r1 r2 r3 r4
  obtain ⟨e1, e2, e3, hne, QQ⟩ := HTN.out w9 g2 cap2 r1 r2 r3 r4
  have E1 := hidH e1
  have E2 := hidH e2
  have E3 : Hid ((w9.setCell ⟨gk, 3, none⟩ (.slice (some ⟨g2, 0, none⟩) (tn + 1) cap2)).heap[w.heap.size]? = some (.cells #[.int .i64 0, .int .i64 0, .int .i64 0, .int .i64 0] 37 (0, 0))) := (Below.heap_setCell _ _ _ _ (Ne.symm hne)).trans e3
  have HQ := hidH QQ
  have c9 := cellOf e1 3 _ rfl
  have z9 := freeOf e1 3
  have HVL : Hid (∀ x, pblk (.slice va tl vc) t x → x < w.heap.size) := HVL0.out
  clear r1 r2 r3 r4 e1 e2 e3 QQ HTN how q3 hne HVL0
  go_wp2_with fail
  have HZ10 : Hid (w9.heap.size = (w9.setCell ⟨gk, 3, none⟩ (.slice (some ⟨g2, 0, none⟩) (tn + 1) cap2)).heap.size) := by show _ = _; simp
  generalize w9.setCell ⟨gk, 3, none⟩ (.slice (some ⟨g2, 0, none⟩) (tn + 1) cap2) = w10 at E2 E3 HQ HZ10 ⊢
  obtain ⟨R, hR⟩ : ∃ R, R = w.heap.size := ⟨_, rfl⟩
  have HRE := hidH hR
  rw [← hR] at E3
  have hRR := hidH hR.symm
  rw [← hR]
  clear hR c9 z9 E1 HX
  have k0 := cellOf E2.out 0 _ rfl
  have k3 := cellOf E2.out 3 _ rfl
  have s0 := cellOf E3.out 0 _ rfl
  have s1 := cellOf E3.out 1 _ rfl
  have s2 := cellOf E3.out 2 _ rfl
  have s3 := cellOf E3.out 3 _ rfl
  have f0 := freeOf E3.out 0
  have f1 := freeOf E3.out 1
  have f2 := freeOf E3.out 2
  have f3 := freeOf E3.out 3
  have RB := hidH (st4_blk E3.out tk (k : Int) (tn : Int) 0)
  obtain ⟨S', q1, q2, q3, q4, q5⟩ := HQ.out
  have FIN : Hid (∃ S', RegAt ((((w10.setCell ⟨R, 0, none⟩ (.int .i64 tk)).setCell ⟨R, 1, none⟩ (.int .i64 (k : Int))).setCell ⟨R, 2, none⟩ (.int .i64 (tn : Int))).setCell ⟨R, 3, none⟩ (.int .i64 0)) gk k { p with l := p.l ++ [t] } S' ∧ (∀ x, S x → S' x) ∧ (∀ x, S' x → S x ∨ w.heap.size ≤ x ∨ pblk (.slice va tl vc) t x) ∧ (∀ x, S' x → x < ((((w10.setCell ⟨R, 0, none⟩ (.int .i64 tk)).setCell ⟨R, 1, none⟩ (.int .i64 (k : Int))).setCell ⟨R, 2, none⟩ (.int .i64 (tn : Int))).setCell ⟨R, 3, none⟩ (.int .i64 0)).heap.size) ∧ Step S S w ((((w10.setCell ⟨R, 0, none⟩ (.int .i64 tk)).setCell ⟨R, 1, none⟩ (.int .i64 (k : Int))).setCell ⟨R, 2, none⟩ (.int .i64 (tn : Int))).setCell ⟨R, 3, none⟩ (.int .i64 0))) := by
    have hnR : ∀ x, S' x → x ≠ R := fun x hx e => by
      subst e
      rcases q3 _ hx with h | h | h
      · have := HSS.out _ h; have := HRE.out; omega
      · have := HRE.out; omega
      · have := HVL.out _ h; have := HRE.out; omega
    refine ⟨S', q1.keep (fun x hx _ => st4_other (hnR x hx) _ _ _ _), q2, fun x hx => (q3 x hx).imp id (fun h => h.imp Nat.le_of_lt id), fun x hx => ?_, st4_step q5 (by have := HRE.out; omega) _ _ _ _⟩
    have : ((((w10.setCell ⟨R, 0, none⟩ (.int .i64 tk)).setCell ⟨R, 1, none⟩ (.int .i64 (k : Int))).setCell ⟨R, 2, none⟩ (.int .i64 (tn : Int))).setCell ⟨R, 3, none⟩ (.int .i64 0)).heap.size = w10.heap.size := by simp
    rw [this]
    have h9 := q4 x hx
    have := HZ10.out
    omega
  clear HQ q1 q2 q3 q4 q5 HRE hRR HSS HVL HZ10
  go_region
  have hid1 : ((tn : Int) + 1 - 1) = (tn : Int) := by omega
  go_wp2_with fail
  generalize ((((w10.setCell ⟨R, 0, none⟩ (.int .i64 tk)).setCell ⟨R, 1, none⟩ (.int .i64 (k : Int))).setCell ⟨R, 2, none⟩ (.int .i64 (tn : Int))).setCell ⟨R, 3, none⟩ (.int .i64 0)) = w99 at RB FIN ⊢
  have e0 := cellOf RB.out 0 _ rfl
  have e1 := cellOf RB.out 1 _ rfl
  have e2 := cellOf RB.out 2 _ rfl
  have e3 := cellOf RB.out 3 _ rfl
  exact bodyPost_ret (v := .agg #[.int .i64 tk, .int .i64 k, .int .i64 tn, .int .i64 0]) (by simp [results, Try.results30, go_sem, e0, e1, e2, e3]) rfl ⟨rfl, by obtain ⟨S', q1, q2, q3, q4, q5⟩ := FIN.out; exact ⟨S', q1.keep (w' := w99.drew) (fun _ _ _ => rfl), q2, q3, q4, q5.drew⟩⟩
end Go.Proofs.Ytjhdpajpibdnaae
