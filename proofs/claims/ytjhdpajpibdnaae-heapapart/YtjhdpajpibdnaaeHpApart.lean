/-
  HeapApart: a thing is changed alone.
-/
import Derived.Test.YtjhdpajpibdnaaeHpApartS
namespace Go.Proofs.Ytjhdpajpibdnaae
open Go.ChangeShapes Go.WideShapes Go.ChangeAt Go.RowKit
set_option linter.unusedVariables false
set_option linter.unusedSimpArgs false
theorem hInfoS : ∃ i, Try.prog.info? 62 = some i ∧ i.zero = some (.slice none 0 0) ∧ i.size = 1 ∧ i.bytes = 24 := by
  have h : (Try.prog.info? 62).map (fun i => (i.zero, i.size, i.bytes)) = some (some (.slice none 0 0), 1, 24) := by kernel_rfl
  obtain ⟨i, hi, e⟩ := Option.map_eq_some_iff.1 h
  simp only [Prod.mk.injEq] at e
  exact ⟨i, hi, e⟩
theorem hUnderSs : Try.prog.underlying 61 = some (.slice 62) := by kernel_rfl
theorem soneS (a : Option Addr) (n c : Nat) : ∀ u ∈ [Value.slice a n c], u.oneCell' = true := by
  intro u hu
  simp at hu
  subst hu; rfl
theorem ASn {w0 w : World} {b : Nat} {h : HHeap} {sv : Nat → Value} {V : Nat} {v : HVal} {va : Value} {VL : List HVal} {pa : Value} {JL : List Nat} {pv : Value} {lp : List HVal} (g : AS w0 w b h sv V v va VL pa JL pv lp) (n : Nat) : AS w0 (w.drewN n) b h sv V v va VL pa JL pv lp := ⟨HSn g.hs n, g.bv, g.rv, g.ra, g.rp, g.d1, g.d3, g.lo⟩
theorem rem_idx (at_ : Int) {L : Nat} (hL : 0 < L) (hb : L ≤ 1000000) : ∃ i : Nat, i < L ∧ wrap64 ((IntKind.u64.wrap at_).tmod (L : Int)) = (i : Int) := by
  have h0 : 0 ≤ IntKind.u64.wrap at_ := by rw [IntKind.wrap_u64]; omega
  have hp : (0 : Int) < L := by omega
  have h1 := Int.emod_nonneg (IntKind.u64.wrap at_) (show (L : Int) ≠ 0 by omega)
  have h2 := Int.emod_lt_of_pos (IntKind.u64.wrap at_) hp
  refine ⟨(IntKind.u64.wrap at_ % (L : Int)).toNat, by omega, ?_⟩
  rw [Int.tmod_eq_emod_of_nonneg h0, wrap64]
  omega
set_option maxHeartbeats 1000000 in
set_option maxRecDepth 100000 in
theorem hapart_great (w : World) (pages : Int) (a1 : Option Addr) (n1 c1 : Nat) (at_ part num : Int) (hg : 40 < n1 ∨ pages < 0 ∨ 1000 < pages) :
    Calls Try.prog 4 #[.int .i64 pages, .slice a1 n1 c1, .int .i64 at_, .int .i64 part, .int .i64 num] w fun e w' => e = .returned (.bool true) ∧ Below w.heap.size w w' := by
  have C := hidH (heapBegun_any w)
  by_cases h1 : 40 < n1
  · have d1 : decide ((n1 : Int) > 40) = true := decide_eq_true (by omega)
    clear hg
    go_enter Try.func4, Try.ntmps4
    go_wp2_with (go_at_call 6; refine (C.out).mono ?_; rintro e w' ⟨rfl, hw⟩)
    go_ret
    exact ⟨rfl, hw⟩
  have d1 : decide ((n1 : Int) > 40) = false := decide_eq_false (by omega)
  by_cases h3 : pages < 0
  · have d3 : decide (pages < 0) = true := decide_eq_true h3
    clear hg
    go_enter Try.func4, Try.ntmps4
    go_wp2_with (go_at_call 6; refine (C.out).mono ?_; rintro e w' ⟨rfl, hw⟩)
    go_ret
    exact ⟨rfl, hw⟩
  have d3 : decide (pages < 0) = false := decide_eq_false h3
  have h4 : 1000 < pages := by omega
  have d4 : decide (pages > 1000) = true := decide_eq_true h4
  clear hg
  go_enter Try.func4, Try.ntmps4
  go_wp2_with (go_at_call 6; refine (C.out).mono ?_; rintro e w' ⟨rfl, hw⟩)
  go_ret
  exact ⟨rfl, hw⟩
set_option maxHeartbeats 1000000 in
set_option maxRecDepth 100000 in
theorem hapart_any (w : World) (n : Nat) (hn : n ≤ 1000) (l : List (List Int)) (a1 : Option Addr) (n1 c1 : Nat) (h1 : n1 ≤ 40) (hl1 : l.length = n1) (hi1 : Lay.int.list.list.In w (fun _ => True) l [.slice a1 n1 c1]) (at_ part num : Int) :
    Calls Try.prog 4 #[.int .i64 (n : Int), .slice a1 n1 c1, .int .i64 at_, .int .i64 part, .int .i64 num] w fun e w' => e = .returned (.bool true) ∧ Below w.heap.size w w' := by
  obtain ⟨i0, hi, hz0, hz1, hz2⟩ := hInfoV
  obtain ⟨j0, hj, hy0, hy1, hy2⟩ := hInfoS
  have C := hidH (heapBegun_any w)
  have d1 : decide ((n1 : Int) > 40) = false := decide_eq_false (by omega)
  have d3 : decide ((n : Int) < 0) = false := decide_eq_false (by omega)
  have d4 : decide ((n : Int) > 1000) = false := decide_eq_false (by omega)
  have hni : (n : Int) ≤ 1000 := by omega
  have HL1 := hidH hl1
  have RI : Hid (∀ (j : Nat) (x : List Int), l[j]? = some x → ∃ g o aj cj, a1 = some ⟨g, o, none⟩ ∧ g < w.heap.size ∧ w.cell? ⟨g, o + j, none⟩ = some (svOf w a1 j) ∧ svOf w a1 j = .slice aj x.length cj ∧ ∀ (i : Nat) (y : Int), x[i]? = some y → ∃ g' o', aj = some ⟨g', o', none⟩ ∧ g' < w.heap.size ∧ w.cell? ⟨g', o' + i, none⟩ = some (.int .i64 y)) := fun j x hx => rows_in hi1 hx
  generalize hsv : svOf w a1 = sv at RI
  clear hsv
  clear hi1 hl1
  go_enter Try.func4, Try.ntmps4
  go_wp2_with (go_at_call 6; refine (C.out).mono ?_; rintro e wa ⟨rfl, hwa⟩)
  have C1 := hidH (snewH hwa n (K := fun _ => False) (fun x h => h.elim))
  refine C1.out.mono ?_
  rintro e w1 ⟨rfl, n1'⟩
  generalize wa.heap.size + 1 = b at n1'
  have k1 := n1'.lt (fun x h => h.elim)
  have S1 := hidH n1'.st
  have K1 := hidH k1
  clear C1 C n1' k1 hwa d1 d3 d4
  -- Open
  have C2 := hidH (sopen S1.out (HB.new n (by omega)) (by decide) K1.out)
  rw [show (HHeap.new n).open_ = (gv, true, ⟨[newP], n⟩) from rfl] at C2
  go_wp2_with fail
  refine C2.out.mono ?_
  rintro e w2 ⟨rfl, n2'⟩
  have B1 := hidH (show HB 1 ⟨[newP], n⟩ by have := (HB.new n (by omega)).open; rwa [show (HHeap.new n).open_ = (gv, true, ⟨[newP], n⟩) from rfl] at this)
  have G3 : Hid (AS w (w2.alloc (vBox gv)) b ⟨[newP], n⟩ sv w2.heap.size gv (.slice none 0 0) [] (.slice none 0 0) [] (.slice none 0 0) []) := by
    have sz := n2'.st.below.size
    refine ⟨(n2'.st.alloc (vBox gv)).mono (fun x hx => ?_), blockNew w2 _ _, VRow.nil _, PRow.nil _ _, VRow.nil _, fun x hx => by simp [Value.ownBlock] at hx, fun x hx => by simp [Value.ownBlock] at hx, fun x hx => ?_⟩
    · rcases hx with h | h | h | h
      · exact .inr h
      · simp [Value.ownBlock] at h
      · simp [Value.ownBlock] at h
      · simp [Value.ownBlock] at h
    · rcases hx with h | h | h | h
      · omega
      · simp [Value.ownBlock] at h
      · simp [Value.ownBlock] at h
      · simp [Value.ownBlock] at h
  have A3 : Hid (AP l ⟨[newP], n⟩ gv [] []) := ⟨⟨newP, rfl⟩, gv_ok, rfl, fun i u hu => by simp at hu, fun i i' u u' hu => by simp at hu⟩
  clear C2 S1 K1 n2'
  go_upto_region 9 with fail
  generalize w2.alloc (.cells #[.int .i64 2, .int .i64 0, .int .i64 0, .int .i64 0] 37) = w3 at G3 ⊢
  generalize w2.heap.size = V at G3 ⊢
  go_wp2_with fail
  go_loopw [12, 13, 16] (fun va pa i wr => ∃ (q : Nat) (h : HHeap) (v : HVal) (VL : List HVal) (JL : List Nat), q ≤ n1 ∧ i = .int .i64 q ∧ AS w wr b h sv V v va VL pa JL (.slice none 0 0) [] ∧ AP l h v VL JL ∧ HB (1 + 103 * q) h ∧ VL.length ≤ q) (fun _ _ i _ => n1 - (intOf i).toNat)
  case atStart => exact ⟨0, _, _, _, _, Nat.zero_le _, rfl, G3.out, A3.out, B1.out, Nat.zero_le _⟩
  case round =>
    obtain ⟨q, h, v, VL, JL, hq, rfl, hG, hA, hB, hVL⟩ := hrel
    have HG := hidH hG
    have HA := hidH hA
    have HBB := hidH hB
    clear hG hA hB G3 A3 B1
    obtain ⟨va0, vac, rfl⟩ := HG.out.rv.form
    obtain ⟨pa0, pac, rfl⟩ := HG.out.ra.form
    by_cases hlt : q < n1
    · have hlt' : (q : Int) < n1 := by omega
      obtain ⟨x, hx⟩ : ∃ x, l[q]? = some x := ⟨_, List.getElem?_eq_getElem (by rw [HL1.out]; exact hlt)⟩
      obtain ⟨g0, o0, aj, cj, rfl, hg0, c0, hsv, hrow⟩ := RI.out q x hx
      rw [hsv] at c0
      have HX := hidH hx
      have HSV := hidH hsv
      have HROW := hidH hrow
      have RC : Hid (∀ wx, Below w.heap.size w wx → wx.cell? ⟨g0, o0 + q, none⟩ = some (.slice aj x.length cj)) := fun wx bx => (World.cell?_of_block (w := w) (a := ⟨g0, o0 + q, none⟩) (bx.block g0 hg0)).trans c0
      clear c0 hsv hrow hx hg0
      have HXL : Hid (x.length = x.length) := rfl
      generalize hxn : x.length = xn at *
      have HXN := hidH hxn
      clear hxn HXL
      have cc := RC.out wr HG.out.hs.below
      by_cases hbig : 100 < xn
      · have d5 : decide ((xn : Int) > 100) = true := decide_eq_true (by omega)
        go_wp2
        go_ret
        exact ⟨rfl, HG.out.hs.below⟩
      have d5 : decide ((xn : Int) > 100) = false := decide_eq_false (by omega)
      obtain ⟨m3, hm1, hm2, hm3, hm4⟩ : ∃ m3, ((q : Int).tmod 3 == 2) = m3 ∧ ((q : Int) % 3 == 2) = m3 ∧ (((q % 3 : Nat) : Int) == 2) = m3 ∧ (q % 3 == 2) = m3 := by
        refine ⟨q % 3 == 2, ?_, ?_, ?_, rfl⟩
        · rw [Int.tmod_eq_emod_of_nonneg (by omega)]
          by_cases h : q % 3 = 2
          · rw [show ((q : Int) % 3) = 2 by omega, h]; rfl
          · rw [beq_false_of_ne h, beq_false_of_ne (show ¬ ((q : Int) % 3) = 2 by omega)]
        · by_cases h : q % 3 = 2
          · rw [show ((q : Int) % 3) = 2 by omega, h]; rfl
          · rw [beq_false_of_ne h, beq_false_of_ne (show ¬ ((q : Int) % 3) = 2 by omega)]
        · by_cases h : q % 3 = 2
          · rw [h]; rfl
          · rw [beq_false_of_ne h, beq_false_of_ne (show ¬ ((q % 3 : Nat) : Int) = 2 by omega)]
      go_upto_if 68 with fail
      clear hm1 hm2 hm3 hm4
      go_cut [] (fun wx => ∃ h' v', AS w wx b h' sv V v' (.slice va0 VL.length vac) VL (.slice pa0 JL.length pac) JL (.slice none 0 0) [] ∧ AP l h' v' VL JL ∧ HB (2 + 103 * q) h')
      case first =>
        cases m3 with
        | false =>
          go_wp2
          go_meet
          exact ⟨h, v, HG.out, HA.out, HBB.out.mono (by omega)⟩
        | true =>
          have CO := hidH (sopen HG.out.hs HBB.out (by omega) HG.out.lt)
          obtain ⟨y, ok, h', hE⟩ : ∃ y ok h', h.open_ = (y, ok, h') := ⟨_, _, _, rfl⟩
          rw [hE] at CO
          have B' : Hid (HB (2 + 103 * q) h') := by have := HBB.out.open; rw [hE] at this; exact this.mono (by omega)
          have GR : Hid (HGrows h h') := by have := HGrows.open h; rw [hE] at this; exact this
          have YK : Hid (ok = true → (∃ p, h'.at y = some p) ∧ y.ok) := fun e => by
            have h1 : h.open_.2.1 = true := by rw [hE]; exact e
            obtain ⟨p, hp, -⟩ := HHeap.open_at h1
            rw [hE] at hp
            refine ⟨⟨p, hp⟩, ?_⟩
            have hy : y = h.open_.1 := by rw [hE]
            rw [hy]
            have hl := HBB.out.ok.len
            unfold HHeap.open_ at h1 ⊢
            split at h1
            · cases h1
            · rename_i h16
              rw [if_neg h16]
              unfold HVal.ok is64
              simp only
              omega
          obtain ⟨yk, yr, yt, yn⟩ := y
          clear hE
          simp only at CO
          go_wp2_with fail
          refine CO.out.mono ?_
          rintro e w4 ⟨rfl, n4⟩
          have G4 := hidH ((HG.out.next n4).alloc (vBox ⟨yk, yr, yt, yn⟩))
          have Y4 := hidH (blockNew w4 #[.int .i64 yk, .int .i64 yr, .int .i64 yt, .int .i64 yn] 37)
          clear CO n4
          go_upto_region 18 with fail
          generalize w4.alloc (.cells #[.int .i64 yk, .int .i64 yr, .int .i64 yt, .int .i64 yn] 37) = w5 at G4 Y4 ⊢
          generalize w4.heap.size = YB at Y4 ⊢
          cases ok with
          | false =>
            go_wp2
            go_meet
            obtain ⟨p, hp⟩ := HA.out.at_
            exact ⟨h', v, G4.out, HA.out.grow GR.out (GR.out.at hp) HA.out.ok, B'.out⟩
          | true =>
            have y0 := cellOf Y4.out 0 _ rfl
            have y1 := cellOf Y4.out 1 _ rfl
            have y2 := cellOf Y4.out 2 _ rfl
            have y3 := cellOf Y4.out 3 _ rfl
            have v0 := cellOf G4.out.bv 0 _ rfl
            have v1 := cellOf G4.out.bv 1 _ rfl
            have v2 := cellOf G4.out.bv 2 _ rfl
            have v3 := cellOf G4.out.bv 3 _ rfl
            have f0 := freeOf G4.out.bv 0
            have f1 := freeOf G4.out.bv 1
            have f2 := freeOf G4.out.bv 2
            have f3 := freeOf G4.out.bv 3
            go_wp2
            go_meet
            exact ⟨h', ⟨yk, yr, yt, yn⟩, G4.out.setV yk yr yt yn, HA.out.grow GR.out (YK.out (by first | rfl | trivial)).1 (YK.out (by first | rfl | trivial)).2, B'.out⟩
      case rest =>
        obtain ⟨h', v', hG', hA', hB'⟩ := hcut
        have HG5 := hidH hG'
        have HA5 := hidH hA'
        have HB5 := hidH hB'
        clear hG' hA' hB' HG HA HBB cc
        generalize wc = w6 at HG5 ⊢
        go_wp2_with fail
        go_loopw [19, 20] (fun pv k wr => ∃ t : Nat, t ≤ xn ∧ k = .int .i64 t ∧ AS w wr b h' sv V v' (.slice va0 VL.length vac) VL (.slice pa0 JL.length pac) JL pv ((x.take t).map intV)) (fun _ k _ => xn - (intOf k).toNat)
        case atStart => exact ⟨0, Nat.zero_le _, rfl, HG5.out⟩
        case round =>
          obtain ⟨t, ht, rfl, hG⟩ := hrel
          have HG := hidH hG
          clear hG
          obtain ⟨pv0, pvc, rfl⟩ := HG.out.rp.form
          have EL : Hid (((x.take t).map intV).length = t) := by show _ = _; simp; have := HXN.out; omega
          have cc := RC.out wr HG.out.hs.below
          by_cases htl : t < xn
          · have htl' : (t : Int) < xn := by omega
            obtain ⟨y, hy⟩ : ∃ y, x[t]? = some y := ⟨_, List.getElem?_eq_getElem (by rw [HXN.out]; exact htl)⟩
            obtain ⟨g1, o1, rfl, hg1, c1⟩ := HROW.out t y hy
            have c1 : wr.cell? ⟨g1, o1 + t, none⟩ = some (.int .i64 y) := (World.cell?_of_block (w := w) (a := ⟨g1, o1 + t, none⟩) (HG.out.hs.below.block g1 hg1)).trans c1
            have ET : Hid ((x.take (t + 1)).map intV = (x.take t).map intV ++ [intV y]) := by show _ = _; rw [List.take_add_one, hy]; simp
            have PU : Hid (∀ w9 g2 cap2, w9.ownsRow 0 37 4 (.slice (some ⟨g2, 0, none⟩) (t + 1) cap2) (t + 1) (vflat ((x.take t).map intV) ++ vcells (intV y)) → (wr.alloc (vBox (intV y))).grownBy w9 (Value.slice pv0 ((x.take t).map intV).length pvc).ownBlock → ((Value.slice pv0 ((x.take t).map intV).length pvc).ownBlock = some g2 ∨ g2 = wr.heap.size + 1) → AS w w9 b h' sv V v' (.slice va0 VL.length vac) VL (.slice pa0 JL.length pac) JL (.slice (some ⟨g2, 0, none⟩) (t + 1) cap2) ((x.take (t + 1)).map intV)) := by
              intro w9 g2 cap2 r1 r2 r3
              rw [ET.out]
              have := HG.out.pushP (x := intV y) (o := vBox (intV y)) (w9 := w9) (g2 := g2) (cap2 := cap2) (by rw [EL.out]; exact r1) r2 r3
              rw [EL.out] at this
              exact this
            have how : Hid (wr.ownsRow 0 37 4 (.slice pv0 ((x.take t).map intV).length pvc) t (vflat ((x.take t).map intV))) := by have := HG.out.rp; unfold VRow at this; rw [EL.out] at this ⊢; exact this
            rw [EL.out] at how PU ⊢
            generalize vflat ((x.take t).map intV) = xs at how PU
            clear hy ET EL HG hg1
            simp only [intV, vcells] at PU
            have hxb : xn ≤ 100 := by omega
            go_wp2_with (at_builtin; refine wpList_append_lies _ rfl (.tmp 85) (.tmp 94) 45 rfl 0 37 i0 (.agg #[.int .i64 0, .int .i64 0, .int .i64 0, .int .i64 0]) 4 32 hUnderVs hi hz0 hz1 hz2 rfl (by decide) _ _ _ rfl (how.out.alloc _) ⟨wr.heap.size, 0, none⟩ 1 1 [.int .i64 1, .int .i64 0, .int .i64 0, .int .i64 y] rfl rfl (newsH _ [_, _, _, _] _) (vone _ _ _ _) (by decide) (by unfold maxLen; omega) (by omega) (Nat.zero_le _) (wr.heap.size + 1) (by simp) ?_)
            intro g2 cap2 w9 r1 r2 r3 r4
            have N9 := hidH (PU.out w9 g2 cap2 r1 r2 r3)
            clear r1 r2 r3 r4 PU how c1 cc
            go_wp2
            go_roundw
            case rel => exact ⟨t + 1, by omega, by go_num, N9.out⟩
            case measure => simp [intOf]; omega
          · have htn : t = xn := by omega
            subst htn
            have ET : (x.take t).map intV = x.map intV := by rw [← HXN.out, List.take_length]
            rw [EL.out] at HG ⊢
            have G7 : Hid (AS w wr b h' sv V v' (.slice va0 VL.length vac) VL (.slice pa0 JL.length pac) JL (.slice pv0 t pvc) (x.map intV)) := by rw [← ET]; exact HG.out
            clear HG ET EL
            generalize wr = w7 at G7 cc ⊢
            have v0 := cellOf G7.out.bv 0 _ rfl
            have v1 := cellOf G7.out.bv 1 _ rfl
            have v2 := cellOf G7.out.bv 2 _ rfl
            have v3 := cellOf G7.out.bv 3 _ rfl
            have C7 := hidH (stuple G7.out.hs HB5.out (by omega) G7.out.lt v' HA5.out.ok (l := x.map intV) (n := t) (c := pvc) (by simp; exact HXN.out) (by omega) (VRow.vin G7.out.rp) (fun g o e => .inl (.inr (.inr (.inr (by rw [e]; rfl))))))
            rw [bare_ints] at C7
            go_wp2_with fail
            refine C7.out.mono ?_
            obtain ⟨p0, hp0⟩ := HA5.out.at_
            have PC := HHeap.put_code (t := ⟨false, x.map intV⟩) (words := if (x.map intV).length = 0 then 1 else (x.map intV).length) hp0
            have PN := fun e => HA5.out.push HX.out e (fun p hp => by have := (HB5.out.ok.of hp).1; omega)
            have BT := HB5.out.tuple v' (x.map intV) (M := 100) (by simp; have := HXN.out; omega)
            change ((h'.tuple v' (x.map intV)).2.1 = 0 ∨ ((h'.tuple v' (x.map intV)).2.1 = 14 ∧ (h'.tuple v' (x.map intV)).2.2 = h' ∧ (h'.tuple v' (x.map intV)).1 = noV)) at PC
            generalize h'.tuple v' (x.map intV) = tup at PC PN BT
            obtain ⟨⟨tk, tr, tt, tn⟩, cd, h2⟩ := tup
            simp only at PC PN BT
            have HPC := hidH PC
            have HPN := hidH PN
            have HBT := hidH BT
            clear PC PN BT hp0 C7
            rintro e w8 ⟨rfl, n8⟩
            have G8 := hidH ((G7.out.next n8).drop.alloc (vBox ⟨tk, tr, tt, tn⟩))
            have T8 := hidH (blockNew w8 #[.int .i64 tk, .int .i64 tr, .int .i64 tt, .int .i64 tn] 37)
            clear n8 G7 v0 v1 v2 v3 cc
            simp only
            go_upto_region 26 with fail
            generalize w8.alloc (.cells #[.int .i64 tk, .int .i64 tr, .int .i64 tt, .int .i64 tn] 37) = w9 at G8 T8 ⊢
            generalize w8.heap.size = TB at T8 ⊢
            rcases HPC.out with rfl | ⟨rfl, rfl, -⟩
            · have AP2 := hidH (HPN.out rfl)
              have t0 := cellOf T8.out 0 _ rfl
              have t1 := cellOf T8.out 1 _ rfl
              have t2 := cellOf T8.out 2 _ rfl
              have t3 := cellOf T8.out 3 _ rfl
              have how : Hid (w9.ownsRow 0 37 4 (.slice va0 VL.length vac) VL.length (vflat VL)) := G8.out.rv
              have PU : Hid (∀ w10 g2 cap2, w10.ownsRow 0 37 4 (.slice (some ⟨g2, 0, none⟩) (VL.length + 1) cap2) (VL.length + 1) (vflat VL ++ [.int .i64 tk, .int .i64 tr, .int .i64 tt, .int .i64 tn]) → (w9.alloc (.cells #[.int .i64 tk, .int .i64 tr, .int .i64 tt, .int .i64 tn] 37)).grownBy w10 (Value.slice va0 VL.length vac).ownBlock → ((Value.slice va0 VL.length vac).ownBlock = some g2 ∨ g2 = w9.heap.size + 1) → AS w w10 b h2 sv V v' (.slice (some ⟨g2, 0, none⟩) (VL.length + 1) cap2) (VL ++ [⟨tk, tr, tt, tn⟩]) (.slice pa0 JL.length pac) JL (.slice none 0 0) []) := fun w10 g2 cap2 r1 r2 r3 => G8.out.pushV (x := ⟨tk, tr, tt, tn⟩) r1 r2 r3
              clear HPC HPN
              generalize vflat VL = xs at how PU
              go_wp2_with (at_builtin; refine wpList_append_lies _ rfl (.tmp 105) (.tmp 107) 45 rfl 0 37 i0 (.agg #[.int .i64 0, .int .i64 0, .int .i64 0, .int .i64 0]) 4 32 hUnderVs hi hz0 hz1 hz2 rfl (by decide) _ _ _ rfl (how.out.alloc _) ⟨w9.heap.size, 0, none⟩ 1 1 [.int .i64 tk, .int .i64 tr, .int .i64 tt, .int .i64 tn] rfl rfl (newsH _ [_, _, _, _] _) (vone _ _ _ _) (by decide) (by unfold maxLen; omega) (by omega) (Nat.zero_le _) (w9.heap.size + 1) (by simp) ?_)
              intro g2 cap2 w10 r1 r2 r3 r4
              have N10 := hidH (PU.out w10 g2 cap2 r1 r2 r3)
              clear r1 r2 r3 r4 PU how t0 t1 t2 t3 G8 T8
              have cc := RC.out w10 N10.out.hs.below
              have how : Hid (w10.ownsRow 0 62 1 (.slice pa0 JL.length pac) JL.length (JL.map sv)) := N10.out.ra
              have PU : Hid (∀ w11 g3 cap3, w11.ownsRow 0 62 1 (.slice (some ⟨g3, 0, none⟩) (JL.length + 1) cap3) (JL.length + 1) (JL.map sv ++ [.slice aj t cj]) → (w10.alloc (.cells #[.slice aj t cj] 62)).grownBy w11 (Value.slice pa0 JL.length pac).ownBlock → ((Value.slice pa0 JL.length pac).ownBlock = some g3 ∨ g3 = w10.heap.size + 1) → AS w w11 b h2 sv V v' (.slice (some ⟨g2, 0, none⟩) (VL.length + 1) cap2) (VL ++ [⟨tk, tr, tt, tn⟩]) (.slice (some ⟨g3, 0, none⟩) (JL.length + 1) cap3) (JL ++ [q]) (.slice none 0 0) []) := fun w11 g3 cap3 r1 r2 r3 => N10.out.pushA (by rw [HSV.out]; exact r1) r2 r3
              have hJL : JL.length ≤ 40 := by have := HA5.out.len; omega
              clear N10
              generalize JL.map sv = ys at how PU
              go_wp2_with (at_builtin; refine wpList_append_lies _ rfl (.tmp 109) (.tmp 114) 61 rfl 0 62 j0 (.slice none 0 0) 1 24 hUnderSs hj hy0 hy1 hy2 rfl (by decide) _ _ _ rfl (how.out.alloc _) ⟨w10.heap.size, 0, none⟩ 1 1 [.slice aj t cj] rfl rfl (newsH _ [_] _) (soneS _ _ _) (by decide) (by unfold maxLen; omega) (by omega) (Nat.zero_le _) (w10.heap.size + 1) (by simp) ?_)
              intro g3 cap3 w11 r1 r2 r3 r4
              have N11 := hidH (PU.out w11 g3 cap3 r1 r2 r3)
              clear r1 r2 r3 r4 PU how cc
              go_wp2
              go_roundw
              case rel => exact ⟨q + 1, _, _, _, _, by omega, by go_num, N11.out, AP2.out, HBT.out.mono (by omega), by simp; omega⟩
              case measure => simp [intOf]; omega
            · clear HPN HPC
              go_wp2
              go_roundw
              case rel => exact ⟨q + 1, _, _, _, _, by omega, by go_num, G8.out, HA5.out, HB5.out.mono (by omega), by omega⟩
              case measure => simp [intOf]; omega
    · have hqn : q = n1 := by omega
      subst hqn
      have hJV := HA.out.len
      have HJV := hidH hJV
      rw [← hJV] at HG ⊢
      clear hJV
      generalize hVN : VL.length = N at HG hVL ⊢
      have HVN := hidH hVN
      clear hVN
      generalize wr = w20 at HG ⊢
      by_cases hN0 : N = 0
      · have dn : ((N : Int) == 0) = true := by simp [hN0]
        go_wp2
        go_ret
        exact ⟨rfl, HG.out.hs.below⟩
      have dn : ((N : Int) == 0) = false := by simp; omega
      obtain ⟨k, hkN, hk⟩ := rem_idx at_ (show 0 < N by omega) (by omega)
      have hkN' : (k : Int) < N := by omega
      obtain ⟨u, hu⟩ : ∃ u, VL[k]? = some u := ⟨_, List.getElem?_eq_getElem (by rw [HVN.out]; exact hkN)⟩
      obtain ⟨j, x, hj1, hx, hth, huok⟩ := HA.out.thing k u hu
      obtain ⟨g0, o0, aj, cj, -, -, -, hsv, -⟩ := RI.out j x hx
      obtain ⟨gp, rfl, cp⟩ := HG.out.ra.cell hj1
      rw [hsv] at cp
      obtain ⟨gv, ov, rfl, hgv, c0, c1, c2, c3⟩ := (VRow.vin HG.out.rv) k u hu
      have HU := hidH hu
      have HJ := hidH hj1
      have HX := hidH hx
      have HK := hidH hkN
      have HUO := hidH huok
      clear hu hj1 hx hsv hth hgv huok
      generalize hxn : x.length = xn at cp
      have HXN := hidH hxn
      clear hxn
      have hxs : xn ≤ 4611686018427387904 := by
        obtain ⟨j2, x2, e1, e2, e3, -⟩ := HA.out.thing k u HU.out
        have := HBB.out.len.thing e3
        rw [HJ.out] at e1; cases e1
        rw [HX.out] at e2; cases e2
        have h9 := HXN.out
        simp at this
        omega
      have hxs' : xn ≤ 1000000 := by
        obtain ⟨j2, x2, e1, e2, e3, -⟩ := HA.out.thing k u HU.out
        have := HBB.out.len.thing e3
        rw [HJ.out] at e1; cases e1
        rw [HX.out] at e2; cases e2
        have h9 := HXN.out
        simp at this
        omega
      obtain ⟨uk, ur, ut, un⟩ := u
      simp only at c0 c1 c2 c3
      obtain ⟨bx, hb1, hb2, hb3⟩ : ∃ bx, decide ((xn : Int) > 0) = bx ∧ decide ((0 : Int) < (xn : Int)) = bx ∧ decide (0 < xn) = bx := ⟨decide (0 < xn), by rw [decide_eq_decide]; omega, by rw [decide_eq_decide]; omega, rfl⟩
      have HBX := hidH hb3
      go_upto_if 133 with fail
      clear hb1 hb2 hb3
      generalize wrap64 ((IntKind.u64.wrap at_).tmod (N : Int)) = kk at hk ⊢
      subst hk
      clear HK
      go_cut [24] (fun cv wx => ∃ (c : Int) (h2 : HHeap), cv = .int .i64 c ∧ AS w wx b h2 sv V v (.slice (some ⟨gv, ov, none⟩) N vac) VL (.slice (some ⟨gp, 0, none⟩) N pac) JL (.slice none 0 0) [] ∧ HB 5000 h2 ∧ AW l h2 VL JL k c num)
      case first =>
        cases bx with
        | true =>
          have hx0 : 0 < xn := of_decide_eq_true HBX.out
          obtain ⟨c, hcN, hc⟩ := rem_idx part hx0 hxs'
          have hcN' : (c : Int) < xn := by omega
          obtain ⟨ps1, ps2⟩ := HA.out.set HU.out HJ.out HX.out (by rw [HXN.out]; exact hcN) num
          have CS := hidH (sset HG.out.hs HBB.out (by omega) HG.out.lt ⟨uk, ur, ut, un⟩ HUO.out (c : Int) (intV num))
          rw [show (intV num).bare = intV num from rfl, ps1] at CS
          have BS := hidH ((HBB.out.set ⟨uk, ur, ut, un⟩ (c : Int) (intV num)).mono (show 1 + 103 * q ≤ 5000 by omega))
          have PS2 := hidH ps2
          simp only [intV] at CS BS PS2
          clear ps1 ps2
          go_wp2_with (go_at_call 20; refine (CS.out).mono ?_; rintro e w21 ⟨rfl, n21⟩)
          go_meet
          exact ⟨(c : Int), _, rfl, HG.out.next n21, BS.out, PS2.out⟩
        | false =>
          go_wp2
          go_meet
          exact ⟨-1, h, rfl, HG.out, HBB.out.mono (by omega), HA.out.none k num⟩
      case rest =>
        obtain ⟨c, h2, rfl, hG2, hB2, hW2⟩ := hcut
        have HG2 := hidH hG2
        have HB2 := hidH hB2
        have HW2 := hidH hW2
        clear hG2 hB2 hW2 HG HA HBB cp c0 c1 c2 c3 HU HJ HX HXN HUO dn hxs hxs'
        generalize wc = w21 at HG2 ⊢
        go_wp2_with fail
        go_loopw [25] (fun i wr => ∃ t : Nat, t ≤ N ∧ i = .int .i64 t ∧ AS w wr b h2 sv V v (.slice (some ⟨gv, ov, none⟩) N vac) VL (.slice (some ⟨gp, 0, none⟩) N pac) JL (.slice none 0 0) []) (fun i _ => N - (intOf i).toNat)
        case atStart => exact ⟨0, Nat.zero_le _, rfl, HG2.out⟩
        case round =>
          obtain ⟨t, ht, rfl, hG⟩ := hrel
          have HG := hidH hG
          clear hG HG2
          by_cases htl : t < N
          · have htl' : (t : Int) < N := by omega
            obtain ⟨u, hu⟩ : ∃ u, VL[t]? = some u := ⟨_, List.getElem?_eq_getElem (by rw [HVN.out]; exact htl)⟩
            obtain ⟨j, x, y, hj1, hx, huok, hth, hyl, hyz⟩ := HW2.out.thing t u hu
            obtain ⟨g0, o0, aj, cj, -, -, -, hsv, hrow⟩ := RI.out j x hx
            have UOK := hidH huok
            have YT := hidH hth
            have HYZ := hidH hyz
            have HROW := hidH hrow
            have hxb : x.length ≤ 5000 := by have := HB2.out.len.thing hth; simp at this; omega
            have CELLS : Hid (∀ wx, AS w wx b h2 sv V v (.slice (some ⟨gv, ov, none⟩) N vac) VL (.slice (some ⟨gp, 0, none⟩) N pac) JL (.slice none 0 0) [] → wx.cell? ⟨gp, t, none⟩ = some (.slice aj x.length cj) ∧ wx.cell? ⟨gv, ov + t * 4, none⟩ = some (.int .i64 u.kind) ∧ wx.cell? ⟨gv, ov + t * 4 + 1, none⟩ = some (.int .i64 u.region) ∧ wx.cell? ⟨gv, ov + t * 4 + 2, none⟩ = some (.int .i64 u.thing) ∧ wx.cell? ⟨gv, ov + t * 4 + 3, none⟩ = some (.int .i64 u.n)) := by
              intro wx gx
              obtain ⟨gp', e1, cp⟩ := gx.ra.cell hj1
              cases e1
              obtain ⟨gv', ov', e2, -, q0, q1, q2, q3⟩ := (VRow.vin gx.rv) t u hu
              cases e2
              exact ⟨by rw [cp, hsv], q0, q1, q2, q3⟩
            have CL := hidH (slen HG.out.hs HB2.out (by decide) HG.out.lt u huok)
            rw [AW.len (l := l) hth, hyl] at CL
            obtain ⟨cp, c0, c1, c2, c3⟩ := CELLS.out _ HG.out
            generalize hxn : x.length = xn at CL cp CELLS hxb
            have HXN := hidH hxn
            clear hxn hu hj1 hx hth hyl hyz hsv hrow huok
            obtain ⟨uk, ur, ut, un⟩ := u
            simp only at c0 c1 c2 c3 CL CELLS
            go_wp2_with fail
            refine CL.out.mono ?_
            rintro e w22 ⟨rfl, n22⟩
            have G22 := hidH (HG.out.next n22)
            clear CL n22 HG cp c0 c1 c2 c3
            obtain ⟨cp, c0, c1, c2, c3⟩ := CELLS.out _ G22.out
            clear c0 c1 c2 c3
            go_upto_region 45 with fail
            go_wp2_with fail
            go_loopw [28] (fun i wr => ∃ p : Nat, p ≤ xn ∧ i = .int .i64 p ∧ AS w wr b h2 sv V v (.slice (some ⟨gv, ov, none⟩) N vac) VL (.slice (some ⟨gp, 0, none⟩) N pac) JL (.slice none 0 0) []) (fun i _ => xn - (intOf i).toNat)
            case atStart => exact ⟨0, Nat.zero_le _, rfl, G22.out⟩
            case round =>
              obtain ⟨p, hp, rfl, hG⟩ := hrel
              have HP := hidH hG
              clear hG G22 cp
              obtain ⟨cp, c0, c1, c2, c3⟩ := CELLS.out _ HP.out
              by_cases hpl : p < xn
              · have hpl' : (p : Int) < xn := by omega
                obtain ⟨z, hz⟩ : ∃ z, x[p]? = some z := ⟨_, List.getElem?_eq_getElem (by rw [HXN.out]; exact hpl)⟩
                obtain ⟨g1, o1, rfl, hg1, cz⟩ := HROW.out p z hz
                have cz : wr.cell? ⟨g1, o1 + p, none⟩ = some (.int .i64 z) := (World.cell?_of_block (w := w) (a := ⟨g1, o1 + p, none⟩) (HP.out.hs.below.block g1 hg1)).trans cz
                have HY2 := hidH (HYZ.out p z hz)
                clear hz hg1
                generalize hwr : wr = w23 at HP cp c0 c1 c2 c3 cz ⊢
                clear hwr
                go_upto_region 49 with fail
                go_cut [203] (fun cv wx => cv = .bool (decide (t = k) && decide ((p : Int) = c)) ∧ wx = w23)
                case first =>
                  by_cases e1 : t = k
                  · have b1 : ((t : Int) == (k : Int)) = true := by simp [e1]
                    by_cases e2 : (p : Int) = c
                    · have b2 : ((p : Int) == c) = true := by simp [e2]
                      have E := hidH (show (decide (t = k) && decide ((p : Int) = c)) = true by rw [decide_eq_true e1, decide_eq_true e2]; rfl)
                      clear e2 e1
                      go_wp2
                      go_meet
                      exact ⟨by rw [E.out], rfl⟩
                    · have b2 : ((p : Int) == c) = false := by simp [e2]
                      have E := hidH (show (decide (t = k) && decide ((p : Int) = c)) = false by rw [decide_eq_false e2, Bool.and_false])
                      clear e2 e1
                      go_wp2
                      go_meet
                      exact ⟨by rw [E.out], rfl⟩
                  · have b1 : ((t : Int) == (k : Int)) = false := by simp; omega
                    have E := hidH (show (decide (t = k) && decide ((p : Int) = c)) = false by rw [decide_eq_false e1, Bool.false_and])
                    clear e1
                    go_wp2
                    go_meet
                    exact ⟨by rw [E.out], rfl⟩
                case rest =>
                  obtain ⟨rfl, rfl⟩ := hcut
                  generalize hbb : (decide (t = k) && decide ((p : Int) = c)) = bb at HY2 ⊢
                  clear hbb
                  cases bb with
                  | true =>
                    rw [show wantN true num z = num from rfl] at HY2
                    have x0 := c0
                    have x1 := c1
                    have x2 := c2
                    have x3 := c3
                    have CG := hidH (sget HP.out.hs HB2.out (by decide) HP.out.lt ⟨uk, ur, ut, un⟩ UOK.out (p : Int))
                    rw [AW.get YT.out HY2.out] at CG
                    simp only [intV] at CG
                    go_wp2_with fail
                    refine CG.out.mono ?_
                    rintro e w13 ⟨rfl, n13⟩
                    have G13 := hidH ((HP.out.next n13).alloc (vBox (intV num)))
                    have Y13 := hidH (blockNew w13 #[.int .i64 1, .int .i64 0, .int .i64 0, .int .i64 num] 37)
                    clear CG n13 x0 x1 x2 x3 c0 c1 c2 c3
                    simp only [intV] at G13
                    go_upto_region 52 with fail
                    generalize w13.alloc (.cells #[.int .i64 1, .int .i64 0, .int .i64 0, .int .i64 num] 37) = w14 at G13 Y13 ⊢
                    generalize w13.heap.size = YB at Y13 ⊢
                    have y0 := cellOf Y13.out 0 _ rfl
                    have y1 := cellOf Y13.out 1 _ rfl
                    have y2 := cellOf Y13.out 2 _ rfl
                    have y3 := cellOf Y13.out 3 _ rfl
                    go_wp2
                    go_roundw
                    case rel => exact ⟨p + 1, by omega, by go_num, G13.out⟩
                    case measure => simp [intOf]; omega
                  | false =>
                    rw [show wantN false num z = z from rfl] at HY2
                    have x0 := c0
                    have x1 := c1
                    have x2 := c2
                    have x3 := c3
                    have CG := hidH (sget HP.out.hs HB2.out (by decide) HP.out.lt ⟨uk, ur, ut, un⟩ UOK.out (p : Int))
                    rw [AW.get YT.out HY2.out] at CG
                    simp only [intV] at CG
                    go_wp2_with fail
                    refine CG.out.mono ?_
                    rintro e w13 ⟨rfl, n13⟩
                    have G13 := hidH ((HP.out.next n13).alloc (vBox (intV z)))
                    have Y13 := hidH (blockNew w13 #[.int .i64 1, .int .i64 0, .int .i64 0, .int .i64 z] 37)
                    clear CG n13 x0 x1 x2 x3 c0 c1 c2 c3
                    simp only [intV] at G13
                    go_upto_region 52 with fail
                    generalize w13.alloc (.cells #[.int .i64 1, .int .i64 0, .int .i64 0, .int .i64 z] 37) = w14 at G13 Y13 ⊢
                    generalize w13.heap.size = YB at Y13 ⊢
                    have y0 := cellOf Y13.out 0 _ rfl
                    have y1 := cellOf Y13.out 1 _ rfl
                    have y2 := cellOf Y13.out 2 _ rfl
                    have y3 := cellOf Y13.out 3 _ rfl
                    go_wp2
                    go_roundw
                    case rel => exact ⟨p + 1, by omega, by go_num, G13.out⟩
                    case measure => simp [intOf]; omega
              · have hpn : p = xn := by omega
                subst hpn
                go_wp2
                go_roundw
                case rel => exact ⟨t + 1, by omega, by go_num, HP.out⟩
                case measure => simp [intOf]; omega
          · have htn : t = N := by omega
            subst htn
            go_wp2
            go_ret
            exact ⟨rfl, HG.out.hs.below⟩
end Go.Proofs.Ytjhdpajpibdnaae
