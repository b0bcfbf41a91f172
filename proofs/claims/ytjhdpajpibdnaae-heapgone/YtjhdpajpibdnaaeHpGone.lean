/-
  HeapGone: what was freed is gone.
-/
import Derived.Test.YtjhdpajpibdnaaeHpRow
import Derived.Deep.DeepCutAuto
namespace Go.Proofs.Ytjhdpajpibdnaae
open Go.ChangeShapes Go.WideShapes Go.ChangeAt Go.RowKit
set_option linter.unusedVariables false
set_option linter.unusedSimpArgs false
abbrev gv : HVal := ⟨2, 0, 0, 0⟩
abbrev gw : HVal := ⟨2, 1, 0, 0⟩
theorem gv_ok : gv.ok := by unfold HVal.ok is64; decide
theorem gw_ok : gw.ok := by unfold HVal.ok is64; decide
theorem bare_ints (l : List Int) : (l.map intV).map HVal.bare = l.map intV := by
  rw [List.map_map]; rfl
/-- A tuple more at the second of two regions. -/
theorem gone1 (n : Nat) (l : List HVal) : ∃ q m x e, (⟨[newP, newP], n⟩ : HHeap).tuple gw l = (x, e, ⟨[newP, q], m⟩) ∧ q.there = true ∧ ((e = 14 ∧ x = noV) ∨ (e = 0 ∧ x = ⟨3, 1, 0, 0⟩ ∧ q.l = [⟨false, l⟩])) := by
  have ha : (⟨[newP, newP], n⟩ : HHeap).at gw = some newP := rfl
  by_cases hn : n = 0
  · refine ⟨newP, n, noV, 14, ?_, rfl, .inl ⟨rfl, rfl⟩⟩
    unfold HHeap.tuple
    rw [HHeap.put_full _ _ ha (by unfold HPlace.tight newP; simp) hn]
  · refine ⟨{ newP.roomed (if l.length = 0 then 1 else l.length) with l := [⟨false, l⟩] }, (⟨[newP, newP], n⟩ : HHeap).roomLeft newP (if l.length = 0 then 1 else l.length), ⟨3, 1, 0, 0⟩, 0, ?_, ?_, .inr ⟨rfl, rfl, rfl⟩⟩
    · unfold HHeap.tuple
      rw [HHeap.put_ok (k := 1) _ _ ha rfl (fun e => hn e.2)]
      rfl
    · exact (HPlace.roomed_there newP (if l.length = 0 then 1 else l.length)).trans rfl
/-- .. and one at the first. -/
theorem gone2 (q : HPlace) (hq : q.there = true) (m : Nat) (l : List HVal) : ∃ r m' t d, (⟨[newP, q], m⟩ : HHeap).tuple gv l = (t, d, ⟨[r, q], m'⟩) ∧ r.there = true ∧ m' + r.pages = m ∧ ((d = 14 ∧ t = noV) ∨ (d = 0 ∧ t = ⟨3, 0, 0, 0⟩)) := by
  have ha : (⟨[newP, q], m⟩ : HHeap).at gv = some newP := rfl
  have ht : ∀ wd, newP.tight wd = true := fun wd => by unfold HPlace.tight newP; simp
  by_cases hn : m = 0
  · refine ⟨newP, m, noV, 14, ?_, rfl, rfl, .inl ⟨rfl, rfl⟩⟩
    unfold HHeap.tuple
    rw [HHeap.put_full _ _ ha (ht _) hn]
  · refine ⟨{ newP.roomed (if l.length = 0 then 1 else l.length) with l := [⟨false, l⟩] }, (⟨[newP, q], m⟩ : HHeap).roomLeft newP (if l.length = 0 then 1 else l.length), ⟨3, 0, 0, 0⟩, 0, ?_, ?_, ?_, .inr ⟨rfl, rfl⟩⟩
    · unfold HHeap.tuple
      rw [HHeap.put_ok (k := 0) _ _ ha rfl (fun e => hn e.2)]
      rfl
    · exact (HPlace.roomed_there newP (if l.length = 0 then 1 else l.length)).trans rfl
    · show (⟨[newP, q], m⟩ : HHeap).roomLeft newP (if l.length = 0 then 1 else l.length) + (newP.roomed (if l.length = 0 then 1 else l.length)).pages = m
      unfold HHeap.roomLeft HPlace.roomed
      rw [ht, if_pos rfl, if_pos rfl]
      show m - 1 + (0 + 1) = m
      omega
theorem gone3 (r q : HPlace) (hr : r.there = true) (m' : Nat) : (⟨[r, q], m'⟩ : HHeap).shut gv = (true, ⟨[noP, q], m' + r.pages⟩) := by
  unfold HHeap.shut
  have ha : (⟨[r, q], m'⟩ : HHeap).at gv = some r := by
    unfold HHeap.at HHeap.place
    simp [hr]
  rw [ha]; rfl
theorem gone4 (q : HPlace) (m : Nat) : (⟨[noP, q], m⟩ : HHeap).at gv = none := rfl
theorem gone5 (q : HPlace) (m : Nat) : (⟨[noP, q], m⟩ : HHeap).shut gv = (false, ⟨[noP, q], m⟩) := rfl
theorem gone6 (q : HPlace) (hq : q.there = true) (m : Nat) : (⟨[noP, q], m⟩ : HHeap).live = 1 := by simp [HHeap.live, noP, hq]
theorem gone7 (q : HPlace) (m : Nat) (t : HVal) (ht : t = noV ∨ t = ⟨3, 0, 0, 0⟩) : (⟨[noP, q], m⟩ : HHeap).thing t = none := by
  rcases ht with rfl | rfl <;> rfl
theorem gone8 (q : HPlace) (hq : q.there = true) (m : Nat) (l : List Int) (hl : q.l = [⟨false, l.map intV⟩]) (i : Nat) (y : Int) (hy : l[i]? = some y) : (⟨[noP, q], m⟩ : HHeap).get ⟨3, 1, 0, 0⟩ (i : Int) = (intV y, 0) := by
  unfold HHeap.get
  have : (⟨[noP, q], m⟩ : HHeap).thing ⟨3, 1, 0, 0⟩ = some ⟨false, l.map intV⟩ := HHeap.thing_iff.2 ⟨.inl rfl, q, by unfold HHeap.place; simp [hq], by decide, by rw [hl]; rfl, rfl⟩
  rw [this]
  simp only
  rw [if_neg (by omega), Int.toNat_natCast, List.getElem?_map, hy]
  rfl
theorem HSn {w0 w : World} {b : Nat} {h : HHeap} {K : Nat → Prop} (S : HS w0 w b h K) (n : Nat) : HS w0 (w.drewN n) b h K := by
  obtain ⟨O, G, H, hO, hb⟩ := S
  exact ⟨O, G, H.drewN n, hO, belowN hb n⟩
abbrev gK (V W : Nat) (pv qv : Value) : Nat → Prop := fun x => x = V ∨ x = W ∨ pv.ownBlock = some x ∨ qv.ownBlock = some x
/-- The law's own memory beside the object: two handles in boxes, two rows of values. -/
structure GS (w0 w : World) (b : Nat) (h : HHeap) (V W : Nat) (pv qv : Value) (lp lq : List HVal) : Prop where
  hs : HS w0 w b h (gK V W pv qv)
  bv : w.heap[V]? = some (.cells #[.int .i64 2, .int .i64 0, .int .i64 0, .int .i64 0] 37 (0, 0))
  bw : w.heap[W]? = some (.cells #[.int .i64 2, .int .i64 1, .int .i64 0, .int .i64 0] 37 (0, 0))
  rp : VRow w pv lp
  rq : VRow w qv lq
  ap : ∀ x, pv.ownBlock = some x → x ≠ V ∧ x ≠ W ∧ qv.ownBlock ≠ some x
  aq : ∀ x, qv.ownBlock = some x → x ≠ V ∧ x ≠ W
  lo : ∀ x, gK V W pv qv x → w0.heap.size ≤ x
section
variable {w0 w w' : World} {b : Nat} {h h' : HHeap} {V W : Nat} {pv qv : Value} {lp lq : List HVal}
theorem GS.lt (g : GS w0 w b h V W pv qv lp lq) : ∀ x, gK V W pv qv x → x < w.heap.size := by
  rintro x (rfl | rfl | hx | hx)
  · exact lt_of_block g.bv
  · exact lt_of_block g.bw
  · exact g.rp.lt hx
  · exact g.rq.lt hx
theorem GS.next (g : GS w0 w b h V W pv qv lp lq) (n : HNext w0 w w' b h' (gK V W pv qv)) : GS w0 w' b h' V W pv qv lp lq :=
  ⟨n.st, (n.keep V (.inl rfl)).trans g.bv, (n.keep W (.inr (.inl rfl))).trans g.bw, g.rp.keep (fun x hx => n.keep x (.inr (.inr (.inl hx)))), g.rq.keep (fun x hx => n.keep x (.inr (.inr (.inr hx)))), g.ap, g.aq, g.lo⟩
theorem GS.alloc (g : GS w0 w b h V W pv qv lp lq) (o : Obj) : GS w0 (w.alloc o) b h V W pv qv lp lq :=
  g.next ⟨(g.hs.alloc o).mono (fun x hx => .inl hx), fun x hx => Below.heap_alloc _ _ _ (g.lt x hx), by simp⟩
theorem GS.swap (g : GS w0 w b h V W pv qv lp lq) : GS w0 w b h V W qv pv lq lp :=
  ⟨g.hs.mono (fun x hx => by rcases hx with h | h | h | h; exact .inl h; exact .inr (.inl h); exact .inr (.inr (.inr h)); exact .inr (.inr (.inl h))), g.bv, g.bw, g.rq, g.rp, fun x hx => ⟨(g.aq x hx).1, (g.aq x hx).2, fun e => (g.ap x e).2.2 hx⟩, fun x hx => ⟨(g.ap x hx).1, (g.ap x hx).2.1⟩, fun x hx => g.lo x (by rcases hx with h | h | h | h; exact .inl h; exact .inr (.inl h); exact .inr (.inr (.inr h)); exact .inr (.inr (.inl h)))⟩
theorem GS.push (g : GS w0 w b h V W pv qv lp lq) {x : HVal} {o : Obj} {w9 : World} {g2 cap2 : Nat} (r1 : w9.ownsRow 0 37 4 (.slice (some ⟨g2, 0, none⟩) (lp.length + 1) cap2) (lp.length + 1) (vflat lp ++ vcells x)) (r2 : (w.alloc o).grownBy w9 pv.ownBlock) (r3 : pv.ownBlock = some g2 ∨ g2 = w.heap.size + 1) (r4 : g2 < w9.heap.size) :
    GS w0 w9 b h V W (.slice (some ⟨g2, 0, none⟩) (lp.length + 1) cap2) qv (lp ++ [x]) lq := by
  have ga := g.alloc o
  have hlt := g.lt
  have hg2 : pv.ownBlock = some g2 ∨ (w.alloc o).heap.size ≤ g2 := r3.imp id (fun e => by simp; omega)
  have keep : ∀ y, y = V ∨ y = W ∨ qv.ownBlock = some y → w9.heap[y]? = (w.alloc o).heap[y]? := fun y hy => by
    refine r2.block y (ga.lt y (by rcases hy with h | h | h; exact .inl h; exact .inr (.inl h); exact .inr (.inr (.inr h)))) (fun e => ?_)
    have := g.ap y e.symm
    rcases hy with h | h | h
    · exact this.1 h
    · exact this.2.1 h
    · exact this.2.2 h
  have hne : g2 ≠ V ∧ g2 ≠ W ∧ qv.ownBlock ≠ some g2 := by
    rcases r3 with e | e
    · exact g.ap g2 e
    · refine ⟨?_, ?_, fun e' => ?_⟩
      · have := hlt V (.inl rfl); omega
      · have := hlt W (.inr (.inl rfl)); omega
      · have := hlt g2 (.inr (.inr (.inr e'))); omega
  have hs0 := ga.hs.below.size
  refine ⟨ga.hs.grown r2 (fun y e => ⟨.inr (.inr (.inl e)), g.lo y (.inr (.inr (.inl e)))⟩) (fun y hy => ?_), (keep V (.inl rfl)).trans ga.bv, (keep W (.inr (.inl rfl))).trans ga.bw, ?_, ga.rq.keep (fun y hy => keep y (.inr (.inr hy))), fun y hy => ?_, g.aq, fun y hy => ?_⟩
  · rcases hy with h | h | h | h
    · exact .inl (.inl h)
    · exact .inl (.inr (.inl h))
    · have := ownBlock_slice.1 h
      subst this
      exact hg2.imp (fun e => .inr (.inr (.inl e))) id
    · exact .inl (.inr (.inr (.inr h)))
  · show w9.ownsRow 0 _ 4 _ (lp ++ [x]).length (vflat (lp ++ [x]))
    rw [vflat_snoc, List.length_append]; exact r1
  · have := ownBlock_slice.1 hy
    subst this; exact hne
  · rcases hy with h | h | h | h
    · exact g.lo y (.inl h)
    · exact g.lo y (.inr (.inl h))
    · have := ownBlock_slice.1 h
      subst this
      rcases hg2 with e | e
      · exact g.lo g2 (.inr (.inr (.inl e)))
      · omega
    · exact g.lo y (.inr (.inr (.inr h)))
end
set_option maxHeartbeats 1000000 in
set_option maxRecDepth 100000 in
theorem hgone_great (w : World) (pages : Int) (a1 : Option Addr) (n1 c1 : Nat) (a2 : Option Addr) (n2 c2 : Nat) (hg : 100 < n1 ∨ 100 < n2 ∨ pages < 0 ∨ 1000 < pages) :
    Calls Try.prog 5 #[.int .i64 pages, .slice a1 n1 c1, .slice a2 n2 c2] w fun e w' => e = .returned (.bool true) ∧ Below w.heap.size w w' := by
  have C := hidH (heapBegun_any w)
  by_cases h1 : 100 < n1
  · have d1 : decide ((n1 : Int) > 100) = true := decide_eq_true (by omega)
    clear hg
    go_enter Try.func5, Try.ntmps5
    go_wp2_with (go_at_call 6; refine (C.out).mono ?_; rintro e w' ⟨rfl, hw⟩)
    go_ret
    exact ⟨rfl, hw⟩
  have d1 : decide ((n1 : Int) > 100) = false := decide_eq_false (by omega)
  by_cases h2 : 100 < n2
  · have d2 : decide ((n2 : Int) > 100) = true := decide_eq_true (by omega)
    clear hg
    go_enter Try.func5, Try.ntmps5
    go_wp2_with (go_at_call 6; refine (C.out).mono ?_; rintro e w' ⟨rfl, hw⟩)
    go_ret
    exact ⟨rfl, hw⟩
  have d2 : decide ((n2 : Int) > 100) = false := decide_eq_false (by omega)
  by_cases h3 : pages < 0
  · have d3 : decide (pages < 0) = true := decide_eq_true h3
    clear hg
    go_enter Try.func5, Try.ntmps5
    go_wp2_with (go_at_call 6; refine (C.out).mono ?_; rintro e w' ⟨rfl, hw⟩)
    go_ret
    exact ⟨rfl, hw⟩
  have d3 : decide (pages < 0) = false := decide_eq_false h3
  have h4 : 1000 < pages := by omega
  have d4 : decide (pages > 1000) = true := decide_eq_true h4
  clear hg
  go_enter Try.func5, Try.ntmps5
  go_wp2_with (go_at_call 6; refine (C.out).mono ?_; rintro e w' ⟨rfl, hw⟩)
  go_ret
  exact ⟨rfl, hw⟩
set_option maxHeartbeats 1000000 in
set_option maxRecDepth 100000 in
theorem hgone_any (w : World) (n : Nat) (hn : n ≤ 1000) (la lb : List Int) (a1 : Option Addr) (n1 c1 : Nat) (a2 : Option Addr) (n2 c2 : Nat) (h1 : n1 ≤ 100) (h2 : n2 ≤ 100) (hl1 : la.length = n1) (hl2 : lb.length = n2) (hi1 : Lay.int.list.In w (fun _ => True) la [.slice a1 n1 c1]) (hi2 : Lay.int.list.In w (fun _ => True) lb [.slice a2 n2 c2]) :
    Calls Try.prog 5 #[.int .i64 (n : Int), .slice a1 n1 c1, .slice a2 n2 c2] w fun e w' => e = .returned (.bool true) ∧ Below w.heap.size w w' := by
  obtain ⟨i0, hi, hz0, hz1, hz2⟩ := hInfoV
  have C := hidH (heapBegun_any w)
  have d1 : decide ((n1 : Int) > 100) = false := decide_eq_false (by omega)
  have d2 : decide ((n2 : Int) > 100) = false := decide_eq_false (by omega)
  have d3 : decide ((n : Int) < 0) = false := decide_eq_false (by omega)
  have d4 : decide ((n : Int) > 1000) = false := decide_eq_false (by omega)
  have hni : (n : Int) ≤ 1000 := by omega
  have HI1 := hidH hi1
  have HI2 := hidH hi2
  have HL1 := hidH hl1
  have HL2 := hidH hl2
  clear hi1 hi2 hl1 hl2
  go_enter Try.func5, Try.ntmps5
  go_wp2_with (go_at_call 6; refine (C.out).mono ?_; rintro e wa ⟨rfl, hwa⟩)
  have C1 := hidH (snewH hwa n (K := fun _ => False) (fun x h => h.elim))
  refine C1.out.mono ?_
  rintro e w1 ⟨rfl, n1'⟩
  generalize wa.heap.size + 1 = b at n1'
  have k1 := n1'.lt (fun x h => h.elim)
  have S1 := hidH n1'.st
  have K1 := hidH k1
  clear C1 C n1' k1 hwa d1 d2 d3 d4
  -- Open, twice
  have C2 := hidH (sopen S1.out (HB.new n (by omega)) (by decide) K1.out)
  rw [show (HHeap.new n).open_ = (gv, true, ⟨[newP], n⟩) from rfl] at C2
  go_wp2_with fail
  refine C2.out.mono ?_
  rintro e w2 ⟨rfl, n2'⟩
  have HV0 : Hid (w.heap.size ≤ w2.heap.size) := n2'.st.below.size
  have S3 := hidH (n2'.st.alloc (vBox gv))
  have K3 := hidH (ltA (n2'.lt K1.out) (vBox gv))
  have V3 := hidH (blockNew w2 #[.int .i64 2, .int .i64 0, .int .i64 0, .int .i64 0] 37)
  have B1 := hidH (show HB 1 ⟨[newP], n⟩ by have := (HB.new n (by omega)).open; rwa [show (HHeap.new n).open_ = (gv, true, ⟨[newP], n⟩) from rfl] at this)
  clear C2 S1 K1 n2'
  go_upto_region 7 with fail
  generalize w2.alloc (.cells #[.int .i64 2, .int .i64 0, .int .i64 0, .int .i64 0] 37) = w3 at S3 K3 V3 ⊢
  generalize w2.heap.size = V at S3 K3 V3 HV0 ⊢
  have C4 := hidH (sopen S3.out B1.out (by decide) K3.out)
  rw [show (⟨[newP], n⟩ : HHeap).open_ = (gw, true, ⟨[newP, newP], n⟩) from rfl] at C4
  go_wp2_with fail
  refine C4.out.mono ?_
  rintro e w4 ⟨rfl, n4'⟩
  have V4 := n4'.blk (.inr rfl) V3.out
  have S5 := hidH (n4'.st.alloc (vBox gw))
  have K5 := hidH (ltA (n4'.lt K3.out) (vBox gw))
  have W5 := hidH (blockNew w4 #[.int .i64 2, .int .i64 1, .int .i64 0, .int .i64 0] 37)
  have V5 := hidH (blkA (vBox gw) V4)
  have B2 := hidH (show HB 2 ⟨[newP, newP], n⟩ by have := B1.out.open; rwa [show (⟨[newP], n⟩ : HHeap).open_ = (gw, true, ⟨[newP, newP], n⟩) from rfl] at this)
  have G5 : Hid (GS w (w4.alloc (vBox gw)) b ⟨[newP, newP], n⟩ V w4.heap.size (.slice none 0 0) (.slice none 0 0) [] []) := by
    have sz := n4'.st.below.size
    have hV := lt_of_block V4
    refine ⟨S5.out.mono (fun x hx => ?_), V5.out, W5.out, VRow.nil _, VRow.nil _, fun x hx => by simp [Value.ownBlock] at hx, fun x hx => by simp [Value.ownBlock] at hx, fun x hx => ?_⟩
    · rcases hx with h | h | h | h
      · exact .inl (.inr h)
      · exact .inr h
      · simp [Value.ownBlock] at h
      · simp [Value.ownBlock] at h
    · rcases hx with h | h | h | h
      · subst h; exact HV0.out
      · omega
      · simp [Value.ownBlock] at h
      · simp [Value.ownBlock] at h
  clear C4 S3 K3 V3 V4 n4' S5 K5 W5 V5 B1
  go_upto_region 8 with fail
  generalize w4.alloc (.cells #[.int .i64 2, .int .i64 1, .int .i64 0, .int .i64 0] 37) = w5 at G5 ⊢
  generalize w4.heap.size = W at G5 ⊢
  go_wp2_with fail
  go_loopw [12, 14] (fun v i wr => ∃ q : Nat, q ≤ n1 ∧ i = .int .i64 q ∧ GS w wr b ⟨[newP, newP], n⟩ V W v (.slice none 0 0) ((la.take q).map intV) []) (fun _ i _ => n1 - (intOf i).toNat)
  case atStart => exact ⟨0, Nat.zero_le _, rfl, G5.out⟩
  case round =>
    obtain ⟨q, hq, rfl, hG⟩ := hrel
    have HG := hidH hG
    clear hG
    by_cases hlt : q < n1
    · have hlt' : (q : Int) < n1 := by omega
      obtain ⟨y, hy⟩ : ∃ y, la[q]? = some y := ⟨_, List.getElem?_eq_getElem (by rw [HL1.out]; exact hlt)⟩
      obtain ⟨g0, o0, rfl, hg0, c0⟩ := ints_in HI1.out hy
      have c0 : wr.cell? ⟨g0, o0 + q, none⟩ = some (.int .i64 y) := (World.cell?_of_block (w := w) (a := ⟨g0, o0 + q, none⟩) (HG.out.hs.below.block g0 hg0)).trans c0
      have ET : Hid ((la.take (q + 1)).map intV = (la.take q).map intV ++ [intV y]) := by show _ = _; rw [List.take_add_one, hy]; simp
      have EL : Hid (((la.take q).map intV).length = q) := by show _ = _; simp; have := HL1.out; omega
      obtain ⟨pa, pc, rfl⟩ := HG.out.rp.form
      have PU : Hid (∀ w9 g2 cap2, w9.ownsRow 0 37 4 (.slice (some ⟨g2, 0, none⟩) (q + 1) cap2) (q + 1) (vflat ((la.take q).map intV) ++ vcells (intV y)) → (wr.alloc (vBox (intV y))).grownBy w9 (Value.slice pa ((la.take q).map intV).length pc).ownBlock → ((Value.slice pa ((la.take q).map intV).length pc).ownBlock = some g2 ∨ g2 = wr.heap.size + 1) → g2 < w9.heap.size → GS w w9 b ⟨[newP, newP], n⟩ V W (.slice (some ⟨g2, 0, none⟩) (q + 1) cap2) (.slice none 0 0) ((la.take (q + 1)).map intV) []) := by
        intro w9 g2 cap2 r1 r2 r3 r4
        rw [ET.out]
        have := HG.out.push (x := intV y) (o := vBox (intV y)) (w9 := w9) (g2 := g2) (cap2 := cap2) (by rw [EL.out]; exact r1) r2 r3 r4
        rw [EL.out] at this
        exact this
      have how : Hid (wr.ownsRow 0 37 4 (.slice pa ((la.take q).map intV).length pc) q (vflat ((la.take q).map intV))) := by have := HG.out.rp; unfold VRow at this; rw [EL.out] at this ⊢; exact this
      rw [EL.out] at how PU ⊢
      generalize vflat ((la.take q).map intV) = xs at how PU
      clear hy ET EL HG
      simp only [intV, vcells] at PU
      go_wp2_with (at_builtin; refine wpList_append_lies _ rfl (.tmp 68) (.tmp 74) 45 rfl 0 37 i0 (.agg #[.int .i64 0, .int .i64 0, .int .i64 0, .int .i64 0]) 4 32 hUnderVs hi hz0 hz1 hz2 rfl (by decide) _ _ _ rfl (how.out.alloc _) ⟨wr.heap.size, 0, none⟩ 1 1 [.int .i64 1, .int .i64 0, .int .i64 0, .int .i64 y] rfl rfl (newsH _ [_, _, _, _] _) (vone _ _ _ _) (by decide) (by unfold maxLen; omega) (by omega) (Nat.zero_le _) (wr.heap.size + 1) (by simp) ?_)
      intro g2 cap2 w9 r1 r2 r3 r4
      have N9 := hidH (PU.out w9 g2 cap2 r1 r2 r3 r4)
      clear r1 r2 r3 r4 PU how c0
      go_wp2
      go_roundw
      case rel => exact ⟨q + 1, by omega, by go_num, N9.out⟩
      case measure => simp [intOf]; omega
    · have hqn : q = n1 := by omega
      subst hqn
      obtain ⟨pa, pc, rfl⟩ := HG.out.rp.form
      have EL : ((la.take q).map intV).length = q := by simp; have := HL1.out; omega
      have ET : (la.take q).map intV = la.map intV := by rw [← HL1.out, List.take_length]
      rw [EL] at HG ⊢
      have G6 : Hid (GS w wr b ⟨[newP, newP], n⟩ V W (.slice pa q pc) (.slice none 0 0) (la.map intV) []) := by rw [← ET]; exact HG.out
      clear HG EL ET
      generalize wr = w6 at G6 ⊢
      obtain ⟨q1, hq1⟩ : ∃ q1, q1 = q := ⟨_, rfl⟩
      subst hq1
      go_wp2_with fail
      go_loopw [13, 15] (fun v i wr => ∃ q : Nat, q ≤ n2 ∧ i = .int .i64 q ∧ GS w wr b ⟨[newP, newP], n⟩ V W (.slice pa q1 pc) v (la.map intV) ((lb.take q).map intV)) (fun _ i _ => n2 - (intOf i).toNat)
      case atStart => exact ⟨0, Nat.zero_le _, rfl, G6.out⟩
      case round =>
        obtain ⟨q, hq, rfl, hG⟩ := hrel
        have HG := hidH hG
        clear hG
        by_cases hlt : q < n2
        · have hlt' : (q : Int) < n2 := by omega
          obtain ⟨y, hy⟩ : ∃ y, lb[q]? = some y := ⟨_, List.getElem?_eq_getElem (by rw [HL2.out]; exact hlt)⟩
          obtain ⟨g0, o0, rfl, hg0, c0⟩ := ints_in HI2.out hy
          have c0 : wr.cell? ⟨g0, o0 + q, none⟩ = some (.int .i64 y) := (World.cell?_of_block (w := w) (a := ⟨g0, o0 + q, none⟩) (HG.out.hs.below.block g0 hg0)).trans c0
          have ET : Hid ((lb.take (q + 1)).map intV = (lb.take q).map intV ++ [intV y]) := by show _ = _; rw [List.take_add_one, hy]; simp
          have EL : Hid (((lb.take q).map intV).length = q) := by show _ = _; simp; have := HL2.out; omega
          obtain ⟨qa, qc, rfl⟩ := HG.out.rq.form
          have PU : Hid (∀ w9 g2 cap2, w9.ownsRow 0 37 4 (.slice (some ⟨g2, 0, none⟩) (q + 1) cap2) (q + 1) (vflat ((lb.take q).map intV) ++ vcells (intV y)) → (wr.alloc (vBox (intV y))).grownBy w9 (Value.slice qa ((lb.take q).map intV).length qc).ownBlock → ((Value.slice qa ((lb.take q).map intV).length qc).ownBlock = some g2 ∨ g2 = wr.heap.size + 1) → g2 < w9.heap.size → GS w w9 b ⟨[newP, newP], n⟩ V W (.slice pa q1 pc) (.slice (some ⟨g2, 0, none⟩) (q + 1) cap2) (la.map intV) ((lb.take (q + 1)).map intV)) := by
            intro w9 g2 cap2 r1 r2 r3 r4
            rw [ET.out]
            have := HG.out.swap.push (x := intV y) (o := vBox (intV y)) (w9 := w9) (g2 := g2) (cap2 := cap2) (by rw [EL.out]; exact r1) r2 r3 r4
            rw [EL.out] at this
            exact this.swap
          have how : Hid (wr.ownsRow 0 37 4 (.slice qa ((lb.take q).map intV).length qc) q (vflat ((lb.take q).map intV))) := by have := HG.out.rq; unfold VRow at this; rw [EL.out] at this ⊢; exact this
          rw [EL.out] at how PU ⊢
          generalize vflat ((lb.take q).map intV) = xs at how PU
          clear hy ET EL HG
          simp only [intV, vcells] at PU
          go_wp2_with (at_builtin; refine wpList_append_lies _ rfl (.tmp 82) (.tmp 88) 45 rfl 0 37 i0 (.agg #[.int .i64 0, .int .i64 0, .int .i64 0, .int .i64 0]) 4 32 hUnderVs hi hz0 hz1 hz2 rfl (by decide) _ _ _ rfl (how.out.alloc _) ⟨wr.heap.size, 0, none⟩ 1 1 [.int .i64 1, .int .i64 0, .int .i64 0, .int .i64 y] rfl rfl (newsH _ [_, _, _, _] _) (vone _ _ _ _) (by decide) (by unfold maxLen; omega) (by omega) (Nat.zero_le _) (wr.heap.size + 1) (by simp) ?_)
          intro g2 cap2 w9 r1 r2 r3 r4
          have N9 := hidH (PU.out w9 g2 cap2 r1 r2 r3 r4)
          clear r1 r2 r3 r4 PU how c0
          go_wp2
          go_roundw
          case rel => exact ⟨q + 1, by omega, by go_num, N9.out⟩
          case measure => simp [intOf]; omega

        · have hqn : q = n2 := by omega
          subst hqn
          obtain ⟨qa, qc, rfl⟩ := HG.out.rq.form
          have EL : ((lb.take q).map intV).length = q := by simp; have := HL2.out; omega
          have ET : (lb.take q).map intV = lb.map intV := by rw [← HL2.out, List.take_length]
          rw [EL] at HG ⊢
          have G7 : Hid (GS w wr b ⟨[newP, newP], n⟩ V W (.slice pa q1 pc) (.slice qa q qc) (la.map intV) (lb.map intV)) := by rw [← ET]; exact HG.out
          clear HG EL ET
          generalize wr = w7 at G7 ⊢
          have x0 := cellOf G7.out.bw 0 _ rfl
          have x1 := cellOf G7.out.bw 1 _ rfl
          have x2 := cellOf G7.out.bw 2 _ rfl
          have x3 := cellOf G7.out.bw 3 _ rfl
          have C7 := hidH (stuple G7.out.hs B2.out (by decide) G7.out.lt gw gw_ok (l := lb.map intV) (n := q) (c := qc) (by simp; exact HL2.out) (by omega) (VRow.vin G7.out.rq) (fun g o e => .inl (.inr (.inr (.inr (by rw [e]; rfl))))))
          rw [bare_ints] at C7
          obtain ⟨pq, m, x, ee, hE, hpq, hcase⟩ := gone1 n (lb.map intV)
          rw [hE] at C7
          have B3 := hidH (show HB 104 ⟨[newP, pq], m⟩ by have := B2.out.tuple gw (lb.map intV) (M := 100) (by simp; have := HL2.out; omega); rw [hE] at this; exact this)
          have HM : Hid (m ≤ 1000000) := by have := B3.out.ok.pages; simp at this; show m ≤ _; omega
          have HPQ := hidH hpq
          have HC := hidH hcase
          obtain ⟨xk, xr, xt, xn⟩ := x
          clear hE hpq hcase
          simp only at C7
          go_wp2_with fail
          refine C7.out.mono ?_
          rintro e w8 ⟨rfl, n8⟩
          have V8 := n8.blk (.inl rfl) G7.out.bv
          have P8 := G7.out.rp.keep (fun y hy => n8.keep y (.inr (.inr (.inl hy))))
          have S9 := hidH (n8.st.alloc (vBox ⟨xk, xr, xt, xn⟩))
          have K9 := hidH (ltA (n8.lt G7.out.lt) (vBox ⟨xk, xr, xt, xn⟩))
          have X9 := hidH (blockNew w8 #[.int .i64 xk, .int .i64 xr, .int .i64 xt, .int .i64 xn] 37)
          have V9 := hidH (blkA (vBox ⟨xk, xr, xt, xn⟩) V8)
          have P9 := hidH (P8.keep (w' := w8.alloc (vBox ⟨xk, xr, xt, xn⟩)) (fun y hy => Below.heap_alloc _ _ _ (P8.lt hy)))
          clear C7 n8 V8 P8 G7 B2 x0 x1 x2 x3
          go_upto_region 18 with fail
          generalize w8.alloc (.cells #[.int .i64 xk, .int .i64 xr, .int .i64 xt, .int .i64 xn] 37) = w9 at S9 K9 X9 V9 P9 ⊢
          generalize w8.heap.size = X at S9 K9 X9 ⊢
          have CP := hidH (spages S9.out)
          simp only at CP
          go_upto_region 19 with (go_at_call 24; refine (CP.out).mono ?_; rintro e w' ⟨rfl, hw⟩; have hw := hw.symm; subst hw)
          clear CP
          have x0 := cellOf V9.out 0 _ rfl
          have x1 := cellOf V9.out 1 _ rfl
          have x2 := cellOf V9.out 2 _ rfl
          have x3 := cellOf V9.out 3 _ rfl
          have C9 := hidH (stuple S9.out B3.out (by decide) K9.out gv gv_ok (l := la.map intV) (n := q1) (c := pc) (by simp; exact HL1.out) (by omega) (VRow.vin P9.out) (fun g o e => .inl (.inl (.inr (.inr (.inl (by rw [e]; rfl)))))))
          rw [bare_ints] at C9
          obtain ⟨pr, m', t, d, hE, hpr, hmm, hcase⟩ := gone2 pq HPQ.out m (la.map intV)
          rw [hE] at C9
          have B4 := hidH (show HB 206 ⟨[pr, pq], m'⟩ by have := B3.out.tuple gv (la.map intV) (M := 100) (by simp; have := HL1.out; omega); rw [hE] at this; exact this)
          have HPR := hidH hpr
          have HMM := hidH hmm
          have HD := hidH hcase
          obtain ⟨tk, tr, tt, tn⟩ := t
          clear hE hpr hmm hcase
          simp only at C9
          go_wp2_with fail
          refine C9.out.mono ?_
          rintro e w10 ⟨rfl, n10⟩
          have V10 := n10.blk (.inl (.inl rfl)) V9.out
          have X10 := n10.blk (.inr rfl) X9.out
          have S11 := hidH (n10.st.alloc (vBox ⟨tk, tr, tt, tn⟩))
          have K11 := hidH (ltA (n10.lt K9.out) (vBox ⟨tk, tr, tt, tn⟩))
          have T11 := hidH (blockNew w10 #[.int .i64 tk, .int .i64 tr, .int .i64 tt, .int .i64 tn] 37)
          have V11 := hidH (blkA (vBox ⟨tk, tr, tt, tn⟩) V10)
          have X11 := hidH (blkA (vBox ⟨tk, tr, tt, tn⟩) X10)
          clear C9 n10 V10 X10 S9 K9 X9 V9 P9 B3 x0 x1 x2 x3
          go_upto_region 20 with fail
          generalize w10.alloc (.cells #[.int .i64 tk, .int .i64 tr, .int .i64 tt, .int .i64 tn] 37) = w11 at S11 K11 T11 V11 X11 ⊢
          generalize w10.heap.size = Y at S11 K11 T11 ⊢
          have KK : Hid (HS w w11 b ⟨[pr, pq], m'⟩ (fun y => y = V ∨ y = X ∨ y = Y) ∧ ∀ y, (y = V ∨ y = X ∨ y = Y) → y < w11.heap.size) := by
            refine ⟨S11.out.mono (fun y hy => ?_), fun y hy => K11.out y ?_⟩
            · rcases hy with h | h | h
              · exact .inl (.inl (.inl h))
              · exact .inl (.inr h)
              · exact .inr h
            · rcases hy with h | h | h
              · exact .inl (.inl (.inl h))
              · exact .inl (.inr h)
              · exact .inr h
          clear S11 K11
          have x0 := cellOf V11.out 0 _ rfl
          have x1 := cellOf V11.out 1 _ rfl
          have x2 := cellOf V11.out 2 _ rfl
          have x3 := cellOf V11.out 3 _ rfl
          have C12 := hidH (sshut KK.out.1 B4.out (by decide) KK.out.2 gv gv_ok)
          rw [gone3 pr pq HPR.out m', HMM.out] at C12
          have B5 := hidH (show HB 206 ⟨[noP, pq], m⟩ by have := B4.out.shut gv; rw [gone3 pr pq HPR.out m', HMM.out] at this; exact this)
          simp only at C12
          go_wp2_with fail
          refine C12.out.mono ?_
          rintro e w12 ⟨rfl, n12⟩
          have V12 := hidH (n12.blk (.inl rfl) V11.out)
          have X12 := hidH (n12.blk (.inr (.inl rfl)) X11.out)
          have T12 := hidH (n12.blk (.inr (.inr rfl)) T11.out)
          have S12 := hidH n12.st
          have K12 := hidH (n12.lt KK.out.2)
          clear C12 n12 KK V11 X11 T11 B4 HPR HMM x0 x1 x2 x3
          have x0 := cellOf V12.out 0 _ rfl
          have x1 := cellOf V12.out 1 _ rfl
          have x2 := cellOf V12.out 2 _ rfl
          have x3 := cellOf V12.out 3 _ rfl
          have C13 := hidH (sshut S12.out B5.out (by decide) K12.out gv gv_ok)
          rw [gone5] at C13
          simp only at C13
          go_wp2_with fail
          refine C13.out.mono ?_
          rintro e w13 ⟨rfl, n13⟩
          have V13 := hidH (n13.blk (.inl rfl) V12.out)
          have X13 := hidH (n13.blk (.inr (.inl rfl)) X12.out)
          have T13 := hidH (n13.blk (.inr (.inr rfl)) T12.out)
          have S13 := hidH n13.st
          have K13 := hidH (n13.lt K12.out)
          clear C13 n13 V12 X12 T12 S12 K12 x0 x1 x2 x3
          have CP := hidH (spages S13.out)
          have CL := hidH (slive S13.out)
          rw [gone6 pq HPQ.out m] at CL
          simp only at CP
          have x0 := cellOf V13.out 0 _ rfl
          have x1 := cellOf V13.out 1 _ rfl
          have x2 := cellOf V13.out 2 _ rfl
          have x3 := cellOf V13.out 3 _ rfl
          have t0 := cellOf T13.out 0 _ rfl
          have t1 := cellOf T13.out 1 _ rfl
          have t2 := cellOf T13.out 2 _ rfl
          have t3 := cellOf T13.out 3 _ rfl
          go_upto_region 22 with (first | (go_at_call 24; refine (CP.out).mono ?_; rintro e w' ⟨rfl, hw⟩; have hw := hw.symm; subst hw) | (go_at_call 25; refine (CL.out).mono ?_; rintro e w' ⟨rfl, hw⟩; have hw := hw.symm; subst hw))
          have HT : Hid ((⟨[noP, pq], m⟩ : HHeap).thing ⟨tk, tr, tt, tn⟩ = none) := gone7 pq m _ (by rcases HD.out with ⟨-, e⟩ | ⟨-, e⟩; exact .inl e; exact .inr e)
          have HTO : Hid ((⟨tk, tr, tt, tn⟩ : HVal).ok) := by rcases HD.out with ⟨-, e⟩ | ⟨-, e⟩ <;> (rw [e]; show HVal.ok _; unfold HVal.ok is64 ; first | decide | (unfold noV; decide))
          have C14 := hidH (sget S13.out B5.out (by decide) K13.out ⟨tk, tr, tt, tn⟩ HTO.out 0)
          rw [show (⟨[noP, pq], m⟩ : HHeap).get ⟨tk, tr, tt, tn⟩ 0 = (noV, 20) by unfold HHeap.get; rw [HT.out]] at C14
          simp only [noV] at C14
          go_wp2_with fail
          refine C14.out.mono ?_
          rintro e w14 ⟨rfl, n14⟩
          have n14' := HNext.same n14.st (n14.lt K13.out) (belA w14 (vBox noV))
          have V15 := hidH ((n14'.blk (.inl rfl) (n14.blk (.inl rfl) V13.out)))
          have X15 := hidH ((n14'.blk (.inr (.inl rfl)) (n14.blk (.inr (.inl rfl)) X13.out)))
          have T15 := hidH ((n14'.blk (.inr (.inr rfl)) (n14.blk (.inr (.inr rfl)) T13.out)))
          have S15 := hidH n14'.st
          have K15 := hidH (n14'.lt (n14.lt K13.out))
          clear C14 n14 n14' V13 X13 T13 S13 K13 x0 x1 x2 x3 t0 t1 t2 t3 CP CL
          simp only [noV] at V15 X15 T15 S15 K15
          go_upto_region 23 with fail
          generalize w14.alloc (.cells #[.int .i64 0, .int .i64 0, .int .i64 0, .int .i64 0] 37) = w15 at V15 X15 T15 S15 K15 ⊢
          generalize w14.heap.size = Y1
          have t0 := cellOf T15.out 0 _ rfl
          have t1 := cellOf T15.out 1 _ rfl
          have t2 := cellOf T15.out 2 _ rfl
          have t3 := cellOf T15.out 3 _ rfl
          have C15 := hidH (slen S15.out B5.out (by decide) K15.out ⟨tk, tr, tt, tn⟩ HTO.out)
          rw [show (⟨[noP, pq], m⟩ : HHeap).len ⟨tk, tr, tt, tn⟩ = (0, 20) by unfold HHeap.len; rw [HT.out]] at C15
          simp only at C15
          go_wp2_with fail
          refine C15.out.mono ?_
          rintro e w16 ⟨rfl, n16⟩
          have V16 := hidH (n16.blk (.inl rfl) V15.out)
          have X16 := hidH (n16.blk (.inr (.inl rfl)) X15.out)
          have T16 := hidH (n16.blk (.inr (.inr rfl)) T15.out)
          have S16 := hidH n16.st
          have K16 := hidH (n16.lt K15.out)
          clear C15 n16 V15 X15 T15 S15 K15 t0 t1 t2 t3
          go_upto_region 24 with fail
          have x0 := cellOf V16.out 0 _ rfl
          have x1 := cellOf V16.out 1 _ rfl
          have x2 := cellOf V16.out 2 _ rfl
          have x3 := cellOf V16.out 3 _ rfl
          have C16 := hidH (stuple (a := none) (c := 0) S16.out B5.out (by decide) K16.out gv gv_ok (l := []) (n := 0) rfl (by decide) (fun i x hx => by simp at hx) (fun g o e => by cases e))
          rw [HHeap.tuple_none _ (gone4 pq m)] at C16
          simp only [noV] at C16
          go_wp2_with fail
          refine C16.out.mono ?_
          rintro e w17 ⟨rfl, n17⟩
          have n17' := HNext.same n17.st (n17.lt K16.out) (belA w17 (vBox noV))
          have V18 := hidH ((n17'.blk (.inl rfl) (n17.blk (.inl rfl) V16.out)))
          have X18 := hidH ((n17'.blk (.inr (.inl rfl)) (n17.blk (.inr (.inl rfl)) X16.out)))
          have T18 := hidH ((n17'.blk (.inr (.inr rfl)) (n17.blk (.inr (.inr rfl)) T16.out)))
          have S18 := hidH n17'.st
          have K18 := hidH (n17'.lt (n17.lt K16.out))
          clear C16 n17 n17' V16 X16 T16 S16 K16 x0 x1 x2 x3
          simp only [noV] at V18 X18 T18 S18 K18
          go_upto_region 25 with fail
          generalize w17.alloc (.cells #[.int .i64 0, .int .i64 0, .int .i64 0, .int .i64 0] 37) = w18 at V18 X18 T18 S18 K18 ⊢
          generalize w17.heap.size = Y2
          have x0 := cellOf V18.out 0 _ rfl
          have x1 := cellOf V18.out 1 _ rfl
          have x2 := cellOf V18.out 2 _ rfl
          have x3 := cellOf V18.out 3 _ rfl
          have C18 := hidH (sarray S18.out B5.out (by decide) K18.out gv gv_ok (n := 0) (by decide))
          rw [HHeap.array_none (by decide) (gone4 pq m)] at C18
          simp only [noV] at C18
          go_wp2_with fail
          refine C18.out.mono ?_
          rintro e w19 ⟨rfl, n19⟩
          have n19' := HNext.same n19.st (n19.lt K18.out) (belA w19 (vBox noV))
          have X20 := hidH ((n19'.blk (.inr (.inl rfl)) (n19.blk (.inr (.inl rfl)) X18.out)))
          have T20 := hidH ((n19'.blk (.inr (.inr rfl)) (n19.blk (.inr (.inr rfl)) T18.out)))
          have S20 := hidH n19'.st
          have K20 := hidH (n19'.lt (n19.lt K18.out))
          clear C18 n19 n19' V18 X18 T18 S18 K18 x0 x1 x2 x3
          simp only [noV] at X20 T20 S20 K20
          go_upto_region 26 with fail
          generalize w19.alloc (.cells #[.int .i64 0, .int .i64 0, .int .i64 0, .int .i64 0] 37) = w20 at X20 T20 S20 K20 ⊢
          generalize w19.heap.size = Y3
          have t0 := cellOf T20.out 0 _ rfl
          have t1 := cellOf T20.out 1 _ rfl
          have t2 := cellOf T20.out 2 _ rfl
          have t3 := cellOf T20.out 3 _ rfl
          have x0 := cellOf X20.out 0 _ rfl
          have x1 := cellOf X20.out 1 _ rfl
          have x2 := cellOf X20.out 2 _ rfl
          have x3 := cellOf X20.out 3 _ rfl
          have CS := hidH (sset S20.out B5.out (by decide) K20.out ⟨tk, tr, tt, tn⟩ HTO.out 0 ⟨xk, xr, xt, xn⟩)
          rw [show (⟨[noP, pq], m⟩ : HHeap).set ⟨tk, tr, tt, tn⟩ 0 (HVal.bare ⟨xk, xr, xt, xn⟩) = (20, ⟨[noP, pq], m⟩) by unfold HHeap.set; rw [HT.out]] at CS
          simp only at CS
          have HD2 : Hid (d = 14 ∨ d = 0) := HD.out.imp (fun h => h.1) (fun h => h.1)
          go_cut [174] (fun v wx => v = .bool false ∧ wx.heap[X]? = some (.cells #[.int .i64 xk, .int .i64 xr, .int .i64 xt, .int .i64 xn] 37 (0, 0)) ∧ HS w wx b ⟨[noP, pq], m⟩ (fun y => y = V ∨ y = X ∨ y = Y) ∧ ∀ y, (y = V ∨ y = X ∨ y = Y) → y < wx.heap.size)
          case first =>
            rcases HD2.out with rfl | rfl
            · go_wp2
              go_meet
              exact ⟨rfl, X20.out, S20.out, K20.out⟩
            · go_wp2_with (go_at_call 20; refine (CS.out).mono ?_; rintro e w21 ⟨rfl, n21⟩)
              go_meet
              exact ⟨rfl, n21.blk (.inr (.inl rfl)) X20.out, n21.st, n21.lt K20.out⟩
          case rest =>
            obtain ⟨rfl, hcX, hcS, hcK⟩ := hcut
            have XR := hidH hcX
            have SR := hidH hcS
            have KR := hidH hcK
            clear hcX hcS hcK CS X20 T20 S20 K20 t0 t1 t2 t3 x0 x1 x2 x3 HD2 HD HT HTO
            rcases HC.out with ⟨rfl, -⟩ | ⟨rfl, hxe, hql⟩
            · go_wp2_with fail
              refine wp_loop_rounds 1 ?_
              rw [rounds_succ]
              by_cases hq0 : 0 < q
              · have hd0 : decide ((0 : Int) < (q : Int)) = true := decide_eq_true (by omega)
                go_wp2
                go_ret
                exact ⟨rfl, SR.out.below⟩
              · have hd0 : decide ((0 : Int) < (q : Int)) = false := decide_eq_false (by omega)
                go_wp2
                go_ret
                exact ⟨rfl, SR.out.below⟩
            · have HQL := hidH hql
              simp only [HVal.mk.injEq] at hxe
              obtain ⟨rfl, rfl, rfl, rfl⟩ := hxe
              clear hql HC
              generalize wc = w22 at XR SR KR ⊢
              go_wp2_with fail
              go_loopw [29] (fun i wr => ∃ j : Nat, j ≤ q ∧ i = .int .i64 j ∧ wr.heap[X]? = some (.cells #[.int .i64 3, .int .i64 1, .int .i64 0, .int .i64 0] 37 (0, 0)) ∧ HS w wr b ⟨[noP, pq], m⟩ (fun y => y = V ∨ y = X ∨ y = Y) ∧ ∀ y, (y = V ∨ y = X ∨ y = Y) → y < wr.heap.size) (fun i _ => q - (intOf i).toNat)
              case atStart => exact ⟨0, Nat.zero_le _, rfl, XR.out, SR.out, KR.out⟩
              case round =>
                obtain ⟨j, hj, rfl, hX, hS, hK⟩ := hrel
                have XJ := hidH hX
                have SJ := hidH hS
                have KJ := hidH hK
                clear hX hS hK
                by_cases hlt : j < q
                · have hlt' : (j : Int) < q := by omega
                  obtain ⟨y, hy⟩ : ∃ y, lb[j]? = some y := ⟨_, List.getElem?_eq_getElem (by rw [HL2.out]; exact hlt)⟩
                  have CG := hidH (sget SJ.out B5.out (by decide) KJ.out ⟨3, 1, 0, 0⟩ (by unfold HVal.ok is64; decide) (j : Int))
                  rw [gone8 pq HPQ.out m lb HQL.out j y hy] at CG
                  obtain ⟨g0, o0, rfl, hg0, c0⟩ := ints_in HI2.out hy
                  have HC0 := hidH c0
                  have HG0 := hidH hg0
                  clear c0 hg0 hy
                  simp only [intV] at CG
                  have x0 := cellOf XJ.out 0 _ rfl
                  have x1 := cellOf XJ.out 1 _ rfl
                  have x2 := cellOf XJ.out 2 _ rfl
                  have x3 := cellOf XJ.out 3 _ rfl
                  go_wp2_with fail
                  refine CG.out.mono ?_
                  rintro e w23 ⟨rfl, n23⟩
                  have n24 := HNext.same n23.st (n23.lt KJ.out) (belA w23 (vBox (intV y)))
                  have X24 := hidH (n24.blk (.inr (.inl rfl)) (n23.blk (.inr (.inl rfl)) XJ.out))
                  have S24 := hidH n24.st
                  have K24 := hidH (n24.lt (n23.lt KJ.out))
                  have Y24 := hidH (blockNew w23 #[.int .i64 1, .int .i64 0, .int .i64 0, .int .i64 y] 37)
                  clear CG n23 n24 x0 x1 x2 x3 XJ SJ KJ
                  simp only [intV] at X24 S24 K24
                  go_upto_region 32 with fail
                  generalize w23.alloc (.cells #[.int .i64 1, .int .i64 0, .int .i64 0, .int .i64 y] 37) = w24 at X24 S24 K24 Y24 ⊢
                  generalize w23.heap.size = YY at Y24 ⊢
                  have y3 := cellOf Y24.out 3 _ rfl
                  have c0 : w24.cell? ⟨g0, o0 + j, none⟩ = some (.int .i64 y) := (World.cell?_of_block (w := w) (a := ⟨g0, o0 + j, none⟩) (S24.out.below.block g0 HG0.out)).trans HC0.out
                  go_quiet (fail)
                  go_wp2
                  go_roundw
                  case rel => exact ⟨j + 1, by omega, by go_num, X24.out, HSn S24.out _, K24.out⟩
                  case measure => simp [intOf]; omega
                · have hjq : j = q := by omega
                  subst hjq
                  go_wp2
                  go_ret
                  exact ⟨rfl, SJ.out.below⟩
end Go.Proofs.Ytjhdpajpibdnaae
