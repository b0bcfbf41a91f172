/-
  Package heap: Tuple.
-/
import Derived.Test.YtjhdpajpibdnaaeHpBare
import Derived.Lib.MinMax
namespace Go.Proofs.Ytjhdpajpibdnaae
open Go.ChangeShapes Go.WideShapes Go.ChangeAt Go.RowKit
set_option linter.unusedVariables false
set_option linter.unusedSimpArgs false
/-- Behind room, a thing of new parts is added. -/
theorem HIn.added {w2 w3 w4 : World} {b : Nat} {O : Nat → Prop} {h2 : HHeap} {G : HG} (H2 : HIn w2 b O h2 G) (b3 : Below w2.heap.size w2 w3) {k : Nat} {p : HPlace} {t : HThing} (hp : h2.L[k]? = some p) (ht : p.there = true) {va : Option Addr} {vc : Nat} (hg : ∀ x, pblk (.slice va t.l.length vc) t x → w2.heap.size ≤ x)
    (ha : ∃ S', RegAt w4 (G.g k) k { p with l := p.l ++ [t] } S' ∧ (∀ x, G.S k x → S' x) ∧ (∀ x, S' x → G.S k x ∨ w3.heap.size ≤ x ∨ pblk (.slice va t.l.length vc) t x) ∧ (∀ x, S' x → x < w4.heap.size) ∧ Step (G.S k) (G.S k) w3 w4) :
    ∃ O' G', HIn w4 b O' { h2 with L := h2.L.set k { p with l := p.l ++ [t] } } G' ∧ Step O O' w2 w4 ∧ (∀ x, O x → O' x) ∧ (∀ x, O' x → O x ∨ w2.heap.size ≤ x) := by
  obtain ⟨S', q1, q2, q3, q4, q5⟩ := ha
  have own : ∀ x, S' x → G.S k x ∨ w2.heap.size ≤ x := fun x hx => by
    rcases q3 x hx with h | h | h
    · exact .inl h
    · exact .inr (Nat.le_trans b3.size h)
    · exact .inr (hg x h)
  have st : Step (G.S k) S' w2 w4 := ⟨q5.os.trans b3.os, q5.tape.trans b3.tape, q5.output.trans b3.output, Nat.le_trans b3.size q5.size, fun x hx hn => (q5.block x (Nat.lt_of_lt_of_le hx b3.size) hn).trans (b3.block x hx), own⟩
  have R := H2.regTo hp ht (p' := { p with l := p.l ++ [t] }) ht q1 q4 st
  have oo : ∀ x, (O x ∨ S' x) → O x ∨ w2.heap.size ≤ x := fun x hx => hx.elim .inl (fun h => (own x h).imp (fun h => (H2.os k x h).1) id)
  exact ⟨_, _, R, ⟨st.os, st.tape, st.output, st.size, fun x hx hn => st.block x hx (fun h => hn (H2.os k x h).1), oo⟩, fun x hx => .inl hx, oo⟩
/-- How many words a tuple of so many parts takes. -/
def tupW (n : Nat) : Int := if n = 0 then 1 else n
theorem run_maxW (n : Nat) (ts : Array TypeId) (t : TypeId) (w : World) : (Builtin.max_ ts t #[.int .i64 (n : Int), .int .i64 1]).run Try.prog w = .ok (.int .i64 (tupW n)) w := by
  rw [Lib.run_max_ints]
  congr 2
  unfold tupW; split <;> omega
theorem VIn.step {w w' : World} {O O' : Nat → Prop} {a : Option Addr} {l : List HVal} (h : VIn w a l) (s : Step O O' w w') (ho : ∀ g o, a = some ⟨g, o, none⟩ → ¬ O g) : VIn w' a l := fun i x hx => by
  obtain ⟨g, o, e, hg, h1, h2, h3, h4⟩ := h i x hx
  have hk := s.block g hg (ho g o e)
  exact ⟨g, o, e, Nat.lt_of_lt_of_le hg s.size, (World.cell?_of_block (w := w) (a := ⟨g, o + i * 4, none⟩) hk).trans h1, (World.cell?_of_block (w := w) (a := ⟨g, o + i * 4 + 1, none⟩) hk).trans h2, (World.cell?_of_block (w := w) (a := ⟨g, o + i * 4 + 2, none⟩) hk).trans h3, (World.cell?_of_block (w := w) (a := ⟨g, o + i * 4 + 3, none⟩) hk).trans h4⟩
set_option maxHeartbeats 1000000 in
set_option maxRecDepth 100000 in
theorem htup_none {w : World} {b : Nat} {O : Nat → Prop} {h : HHeap} {G : HG} (H : HIn w b O h G) (v : HVal) (hv : v.ok) {a : Option Addr} {n c : Nat} {l : List HVal} (hn : l.length = n) (hb : n ≤ 1099511627776) (hl : VIn w a l) (ha : h.at v = none) :
    Calls Try.prog 14 #[.pointer (some ⟨b, 0, none⟩), vAgg v, .slice a n c] w fun e w' => e = .returned (.tuple #[vAgg (h.tuple v (l.map HVal.bare)).1, .int .i64 (h.tuple v (l.map HVal.bare)).2.1]) ∧ HTo w w' b O (h.tuple v (l.map HVal.bare)).2.2 := by
    have B0 := hidH (belAA w (.cells #[.int .i64 v.kind, .int .i64 v.region, .int .i64 v.thing, .int .i64 v.n] 37) (.cells #[.int .i64 0, .int .i64 0, .int .i64 0, .int .i64 0] 37))
    have BX := hidH (newA w #[.int .i64 v.kind, .int .i64 v.region, .int .i64 v.thing, .int .i64 v.n] 37 (.cells #[.int .i64 0, .int .i64 0, .int .i64 0, .int .i64 0] 37))
    have BR := hidH (newAA w (.cells #[.int .i64 v.kind, .int .i64 v.region, .int .i64 v.thing, .int .i64 v.n] 37) #[.int .i64 0, .int .i64 0, .int .i64 0, .int .i64 0] 37)
    have H0 := hidH H
    have H1 := hidH (H.below B0.out)
    have HL := hidH (hl.below B0.out)
    have E : Hid (h.tuple v (l.map HVal.bare) = (noV, 20, h)) := by
      show _ = _
      exact HHeap.tuple_none _ ha
    have C := hidH (hroom_none H1.out v hv (tupW n) ha)
    have hmx := run_maxW n
    clear H hv hl
    go_enter Try.func14, Try.ntmps14
    go_upto_region 1 with fail
    generalize ((w.alloc (.cells #[.int .i64 v.kind, .int .i64 v.region, .int .i64 v.thing, .int .i64 v.n] 37)).alloc (.cells #[.int .i64 0, .int .i64 0, .int .i64 0, .int .i64 0] 37)) = w1 at B0 BX BR H1 C HL ⊢
    obtain ⟨X, hX⟩ : ∃ X, X = w.heap.size := ⟨_, rfl⟩
    obtain ⟨R, hR⟩ : ∃ R, R = X + 1 := ⟨_, rfl⟩
    have HR : Hid (w.heap.size ≤ R) := by show _ ≤ _; omega
    have NR : Hid (¬ O R) := fun e => by have := H0.out.lt R e; omega
    rw [← hX] at BX BR ⊢
    rw [← hR] at BR ⊢
    clear hX hR
    have x0 := cellOf BX.out 0 _ rfl
    have x1 := cellOf BX.out 1 _ rfl
    have x2 := cellOf BX.out 2 _ rfl
    have x3 := cellOf BX.out 3 _ rfl
    have r0 := hidH BR.out
    go_wp2_with fail
    refine C.out.mono ?_
    rintro e w2 ⟨rfl, b2⟩
    have HZ := hidH (H1.out.below b2)
    have SZ : Hid (Step O O w w2) := Step.of_below (B0.out.trans (b2.mono B0.out.size)) (fun k hk => .inl hk)
    have BR2 := hidH ((b2.block R (lt_of_block BR.out)).trans BR.out)
    clear x0 x1 x2 x3 r0 C b2 BX BR B0 H1 HL H0
    have s0 := cellOf BR2.out 0 _ rfl
    have s1 := cellOf BR2.out 1 _ rfl
    have s2 := cellOf BR2.out 2 _ rfl
    have s3 := cellOf BR2.out 3 _ rfl
    have f0 := freeOf BR2.out 0
    have f1 := freeOf BR2.out 1
    have f2 := freeOf BR2.out 2
    have f3 := freeOf BR2.out 3
    have K1 := hidH (HTo.st4 (w := w) HZ.out SZ.out (fun _ h => h) HR.out NR.out 0 0 0 0)
    have K2 := hidH (st4_blk BR2.out 0 0 0 0)
    go_wp2
    generalize ((((w2.setCell ⟨R, 0, none⟩ (.int .i64 0)).setCell ⟨R, 1, none⟩ (.int .i64 0)).setCell ⟨R, 2, none⟩ (.int .i64 0)).setCell ⟨R, 3, none⟩ (.int .i64 0)) = w99 at K1 K2 ⊢
    have e0 := cellOf K2.out 0 _ rfl
    have e1 := cellOf K2.out 1 _ rfl
    have e2 := cellOf K2.out 2 _ rfl
    have e3 := cellOf K2.out 3 _ rfl
    exact bodyPost_ret (v := .tuple #[.agg #[.int .i64 0, .int .i64 0, .int .i64 0, .int .i64 0], .int .i64 20]) (by simp [results, Try.results14, go_sem, e0, e1, e2, e3]) rfl ⟨by rw [E.out] <;> rfl, by rw [E.out]; exact K1.out⟩
set_option maxHeartbeats 1000000 in
set_option maxRecDepth 100000 in
theorem htup_full {w : World} {b : Nat} {O : Nat → Prop} {h : HHeap} {G : HG} (H : HIn w b O h G) (v : HVal) (hv : v.ok) {a : Option Addr} {n c : Nat} {l : List HVal} (hn : l.length = n) (hb : n ≤ 1099511627776) (hl : VIn w a l) {p : HPlace} (ha : h.at v = some p) (ht : p.tight (tupW n) = true) (hl0 : h.left = 0) (hu : 0 ≤ p.used ∧ p.used ≤ 1099511627776) :
    Calls Try.prog 14 #[.pointer (some ⟨b, 0, none⟩), vAgg v, .slice a n c] w fun e w' => e = .returned (.tuple #[vAgg (h.tuple v (l.map HVal.bare)).1, .int .i64 (h.tuple v (l.map HVal.bare)).2.1]) ∧ HTo w w' b O (h.tuple v (l.map HVal.bare)).2.2 := by
    have B0 := hidH (belAA w (.cells #[.int .i64 v.kind, .int .i64 v.region, .int .i64 v.thing, .int .i64 v.n] 37) (.cells #[.int .i64 0, .int .i64 0, .int .i64 0, .int .i64 0] 37))
    have BX := hidH (newA w #[.int .i64 v.kind, .int .i64 v.region, .int .i64 v.thing, .int .i64 v.n] 37 (.cells #[.int .i64 0, .int .i64 0, .int .i64 0, .int .i64 0] 37))
    have BR := hidH (newAA w (.cells #[.int .i64 v.kind, .int .i64 v.region, .int .i64 v.thing, .int .i64 v.n] 37) #[.int .i64 0, .int .i64 0, .int .i64 0, .int .i64 0] 37)
    have H0 := hidH H
    have H1 := hidH (H.below B0.out)
    have HL := hidH (hl.below B0.out)
    have E : Hid (h.tuple v (l.map HVal.bare) = (noV, 14, h)) := by
      show _ = _
      unfold HHeap.tuple; rw [List.length_map, hn]; exact HHeap.put_full _ _ ha ht hl0
    have C := hidH (hroom_full H1.out v hv (tupW n) ha ht hl0 (by unfold tupW; split <;> omega) hu)
    have hmx := run_maxW n
    clear H hv hl
    have HTT := hidH ht
    clear ht
    go_enter Try.func14, Try.ntmps14
    go_upto_region 1 with fail
    generalize ((w.alloc (.cells #[.int .i64 v.kind, .int .i64 v.region, .int .i64 v.thing, .int .i64 v.n] 37)).alloc (.cells #[.int .i64 0, .int .i64 0, .int .i64 0, .int .i64 0] 37)) = w1 at B0 BX BR H1 C HL ⊢
    obtain ⟨X, hX⟩ : ∃ X, X = w.heap.size := ⟨_, rfl⟩
    obtain ⟨R, hR⟩ : ∃ R, R = X + 1 := ⟨_, rfl⟩
    have HR : Hid (w.heap.size ≤ R) := by show _ ≤ _; omega
    have NR : Hid (¬ O R) := fun e => by have := H0.out.lt R e; omega
    rw [← hX] at BX BR ⊢
    rw [← hR] at BR ⊢
    clear hX hR
    have x0 := cellOf BX.out 0 _ rfl
    have x1 := cellOf BX.out 1 _ rfl
    have x2 := cellOf BX.out 2 _ rfl
    have x3 := cellOf BX.out 3 _ rfl
    have r0 := hidH BR.out
    go_wp2_with fail
    refine C.out.mono ?_
    rintro e w2 ⟨rfl, b2⟩
    have HZ := hidH (H1.out.below b2)
    have SZ : Hid (Step O O w w2) := Step.of_below (B0.out.trans (b2.mono B0.out.size)) (fun k hk => .inl hk)
    have BR2 := hidH ((b2.block R (lt_of_block BR.out)).trans BR.out)
    clear x0 x1 x2 x3 r0 C b2 BX BR B0 H1 HL H0
    have s0 := cellOf BR2.out 0 _ rfl
    have s1 := cellOf BR2.out 1 _ rfl
    have s2 := cellOf BR2.out 2 _ rfl
    have s3 := cellOf BR2.out 3 _ rfl
    have f0 := freeOf BR2.out 0
    have f1 := freeOf BR2.out 1
    have f2 := freeOf BR2.out 2
    have f3 := freeOf BR2.out 3
    have K1 := hidH (HTo.st4 (w := w) HZ.out SZ.out (fun _ h => h) HR.out NR.out 0 0 0 0)
    have K2 := hidH (st4_blk BR2.out 0 0 0 0)
    go_wp2
    generalize ((((w2.setCell ⟨R, 0, none⟩ (.int .i64 0)).setCell ⟨R, 1, none⟩ (.int .i64 0)).setCell ⟨R, 2, none⟩ (.int .i64 0)).setCell ⟨R, 3, none⟩ (.int .i64 0)) = w99 at K1 K2 ⊢
    have e0 := cellOf K2.out 0 _ rfl
    have e1 := cellOf K2.out 1 _ rfl
    have e2 := cellOf K2.out 2 _ rfl
    have e3 := cellOf K2.out 3 _ rfl
    exact bodyPost_ret (v := .tuple #[.agg #[.int .i64 0, .int .i64 0, .int .i64 0, .int .i64 0], .int .i64 14]) (by simp [results, Try.results14, go_sem, e0, e1, e2, e3]) rfl ⟨by rw [E.out] <;> rfl, by rw [E.out]; exact K1.out⟩
set_option maxHeartbeats 1000000 in
set_option maxRecDepth 100000 in
theorem htup_ok {w : World} {b : Nat} {O : Nat → Prop} {h : HHeap} {G : HG} (H : HIn w b O h G) (v : HVal) (hv : v.ok) {a : Option Addr} {n c : Nat} {l : List HVal} (hn : l.length = n) (hb : n ≤ 1099511627776) (hl : VIn w a l) {p : HPlace} (ha : h.at v = some p) {k : Nat} (hkv : v.region = k) (hok : ¬ (p.tight (tupW n) = true ∧ h.left = 0)) (hu : 0 ≤ p.used ∧ p.used ≤ 1099511627776) (hpp : p.pages ≤ 1099511627776) (hll : h.left ≤ 1099511627776) (hpl : p.l.length ≤ 1099511627776) (hlo : ∀ g o, a = some ⟨g, o, none⟩ → ¬ O g) :
    Calls Try.prog 14 #[.pointer (some ⟨b, 0, none⟩), vAgg v, .slice a n c] w fun e w' => e = .returned (.tuple #[vAgg (h.tuple v (l.map HVal.bare)).1, .int .i64 (h.tuple v (l.map HVal.bare)).2.1]) ∧ HTo w w' b O (h.tuple v (l.map HVal.bare)).2.2 := by
    have B0 := hidH (belAA w (.cells #[.int .i64 v.kind, .int .i64 v.region, .int .i64 v.thing, .int .i64 v.n] 37) (.cells #[.int .i64 0, .int .i64 0, .int .i64 0, .int .i64 0] 37))
    have BX := hidH (newA w #[.int .i64 v.kind, .int .i64 v.region, .int .i64 v.thing, .int .i64 v.n] 37 (.cells #[.int .i64 0, .int .i64 0, .int .i64 0, .int .i64 0] 37))
    have BR := hidH (newAA w (.cells #[.int .i64 v.kind, .int .i64 v.region, .int .i64 v.thing, .int .i64 v.n] 37) #[.int .i64 0, .int .i64 0, .int .i64 0, .int .i64 0] 37)
    have H0 := hidH H
    have H1 := hidH (H.below B0.out)
    have HL := hidH (hl.below B0.out)
    have E : Hid (h.tuple v (l.map HVal.bare) = (⟨3, k, p.l.length, 0⟩, 0, ⟨h.L.set k { p.roomed (tupW n) with l := p.l ++ [⟨false, l.map HVal.bare⟩] }, h.roomLeft p (tupW n)⟩)) := by
      show _ = _
      unfold HHeap.tuple
      rw [List.length_map, hn]
      exact HHeap.put_ok _ _ ha hkv hok
    have C := hidH (hroom_ok H1.out v hv (tupW n) ha hkv hok (by unfold tupW; split <;> omega) hu hpp hll)
    have hmx := run_maxW n
    obtain ⟨-, -, k', hvk, hLk, hth⟩ := HHeap.at_some ha
    have ek : k' = k := by omega
    subst ek
    have HLK := hidH hLk
    have HTH := hidH hth
    have HN := hidH hn
    have HKV := hidH hkv
    have HLO := hidH hlo
    clear hlo
    clear H hv hl ha hok hvk hLk hth hn hkv
    go_enter Try.func14, Try.ntmps14
    go_upto_region 1 with fail
    generalize ((w.alloc (.cells #[.int .i64 v.kind, .int .i64 v.region, .int .i64 v.thing, .int .i64 v.n] 37)).alloc (.cells #[.int .i64 0, .int .i64 0, .int .i64 0, .int .i64 0] 37)) = w1 at B0 BX BR H1 C HL ⊢
    obtain ⟨X, hX⟩ : ∃ X, X = w.heap.size := ⟨_, rfl⟩
    obtain ⟨R, hR⟩ : ∃ R, R = X + 1 := ⟨_, rfl⟩
    have HR : Hid (w.heap.size ≤ R) := by show _ ≤ _; omega
    have NR : Hid (¬ O R) := fun e => by have := H0.out.lt R e; omega
    rw [← hX] at BX BR ⊢
    rw [← hR] at BR ⊢
    clear hX hR
    have x0 := cellOf BX.out 0 _ rfl
    have x1 := cellOf BX.out 1 _ rfl
    have x2 := cellOf BX.out 2 _ rfl
    have x3 := cellOf BX.out 3 _ rfl
    have r0 := hidH BR.out
    go_wp2_with fail
    refine C.out.mono ?_
    rintro e w2 ⟨rfl, h2, s2⟩
    have HZ := hidH h2
    have SZ : Hid (Step O O w w2) := (Step.of_below (O := O) B0.out (fun k hk => .inl hk)).trans s2
    have HR1 : Hid (R < w1.heap.size) := lt_of_block BR.out
    have HNO : Hid (¬ O R) := NR.out
    have BR2 := hidH ((s2.block R (lt_of_block BR.out) NR.out).trans BR.out)
    have VI := hidH (VIn.step HL.out s2 HLO.out)
    clear x0 x1 x2 x3 r0 C h2 BX BR H1 HL
    go_wp2_with fail
    refine (hbareAll_any HN.out hb VI.out).mono ?_
    rintro e w3 ⟨g, rfl, hg, hrow, b3⟩
    have HROW := hidH hrow
    have HB3 := hidH b3
    have HG := hidH hg
    have hp2 : (⟨h.L.set k' (p.roomed (tupW n)), h.roomLeft p (tupW n)⟩ : HHeap).L[k']? = some (p.roomed (tupW n)) := by
      have := (List.getElem?_eq_some_iff.1 HLK.out).1
      simp [this]
    have ht2 : (p.roomed (tupW n)).there = true := by rw [HPlace.roomed_there]; exact HTH.out
    obtain ⟨tv, pv, RI⟩ := (HZ.out.below b3).reg k' _ hp2 ht2
    have PA : PartsAt w3 (.slice (some ⟨g, 0, none⟩) (⟨false, l.map HVal.bare⟩ : HThing).l.length n) (⟨false, l.map HVal.bare⟩ : HThing).l := by
      have hlen : (l.map HVal.bare).length = n := by rw [List.length_map, HN.out]
      refine ⟨⟨_, _, rfl⟩, fun _ => ⟨g, n, rfl, ?_⟩⟩
      show w3.rowIs g _ ((l.map HVal.bare).length * 4) _
      rw [hlen]; exact HROW.out
    have pb : ∀ x, pblk (.slice (some ⟨g, 0, none⟩) (⟨false, l.map HVal.bare⟩ : HThing).l.length n) ⟨false, l.map HVal.bare⟩ x → w2.heap.size ≤ x := fun x hx => by
      have := ownBlock_slice.1 hx.2
      have := HG.out
      omega
    have CA := hadd_any RI PA (fun x hx hS => by have := HZ.out.lt x (HZ.out.os k' x hS).1; have := pb x hx; omega) (fun x hx => Nat.lt_of_lt_of_le (HZ.out.lt x (HZ.out.os k' x hx).1) HB3.out.size) (by rw [HPlace.roomed_l]; exact hpl)
    rw [show (⟨false, l.map HVal.bare⟩ : HThing).l.length = n by show (l.map HVal.bare).length = n; rw [List.length_map, HN.out], HPlace.roomed_l] at CA
    have HCA : Hid (Calls Try.prog 30 #[.pointer (some ⟨G.g k', 0, none⟩), .int .i64 3, .slice (some ⟨g, 0, none⟩) n n] w3 fun e w' => e = .returned (.agg #[.int .i64 3, .int .i64 k', .int .i64 p.l.length, .int .i64 0]) ∧ ∃ O' G', HIn w' b O' ⟨h.L.set k' { p.roomed (tupW n) with l := p.l ++ [⟨false, l.map HVal.bare⟩] }, h.roomLeft p (tupW n)⟩ G' ∧ Step O O' w2 w' ∧ (∀ x, O x → O' x) ∧ (∀ x, O' x → O x ∨ w2.heap.size ≤ x)) := by
      refine CA.mono ?_
      rintro e w4 ⟨rfl, hadd⟩
      refine ⟨rfl, ?_⟩
      have hlen : (⟨false, l.map HVal.bare⟩ : HThing).l.length = n := by show (l.map HVal.bare).length = n; rw [List.length_map, HN.out]
      have AD := HZ.out.added (w4 := w4) HB3.out hp2 ht2 (t := ⟨false, l.map HVal.bare⟩) (va := some ⟨g, 0, none⟩) (vc := n) pb (by rw [hlen, HPlace.roomed_l]; exact hadd)
      rw [HPlace.roomed_l] at AD
      simpa only [List.set_set] using AD
    have BR2' := hidH BR2.out
    have BR3 := hidH ((b3.block R (by have := HR1.out; have := s2.size; omega)).trans BR2.out)
    have HW2 : Hid (R < w2.heap.size) := Nat.lt_of_lt_of_le HR1.out s2.size
    clear hrow hg b3 RI PA pb CA hp2 ht2 HROW HG BR2 VI HLK HTH HN HKV HLO s2 HZ B0 H0 HR1 hb hu hpp hll hpl
    go_wp2_with fail
    refine HCA.out.mono ?_
    rintro e w4 ⟨rfl, O', G', h4, s4, o4, n4⟩
    have NR4 : ¬ O' R := fun e => by
      rcases n4 R e with h | h
      · exact HNO.out h
      · have := HW2.out; omega
    have BR4 := hidH ((s4.block R HW2.out HNO.out).trans BR2'.out)
    have K1 := hidH (HTo.st4 h4 (SZ.out.trans s4) (fun x hx => o4 x hx) HR.out NR4 3 (k' : Int) (p.l.length : Int) 0)
    have K2 := hidH (st4_blk BR4.out 3 (k' : Int) (p.l.length : Int) 0)
    have s0 := cellOf BR4.out 0 _ rfl
    have s1 := cellOf BR4.out 1 _ rfl
    have s2 := cellOf BR4.out 2 _ rfl
    have s3 := cellOf BR4.out 3 _ rfl
    have f0 := freeOf BR4.out 0
    have f1 := freeOf BR4.out 1
    have f2 := freeOf BR4.out 2
    have f3 := freeOf BR4.out 3
    clear h4 s4 o4 n4 NR4 HCA HB3 BR3
    go_wp2
    generalize ((((w4.setCell ⟨R, 0, none⟩ (.int .i64 3)).setCell ⟨R, 1, none⟩ (.int .i64 (k' : Int))).setCell ⟨R, 2, none⟩ (.int .i64 (p.l.length : Int))).setCell ⟨R, 3, none⟩ (.int .i64 0)) = w99 at K1 K2 ⊢
    have e0 := cellOf K2.out 0 _ rfl
    have e1 := cellOf K2.out 1 _ rfl
    have e2 := cellOf K2.out 2 _ rfl
    have e3 := cellOf K2.out 3 _ rfl
    exact bodyPost_ret (v := .tuple #[.agg #[.int .i64 3, .int .i64 k', .int .i64 p.l.length, .int .i64 0], .int .i64 0]) (by simp [results, Try.results14, go_sem, e0, e1, e2, e3]) rfl ⟨by rw [E.out] <;> rfl, by rw [E.out]; exact K1.out⟩
end Go.Proofs.Ytjhdpajpibdnaae
