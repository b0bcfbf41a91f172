/-
  token.Scan.
-/
import Derived.Test.YtlahoehngnebnacDoorTokScanM
import Derived.Deep.AppendLies
namespace Go.Proofs.YtlahoehngnebnacDoor
open Go.ChangeShapes Go.WideShapes Go.ChangeAt Go.RowKit Go.Shelf
set_option linter.unusedVariables false
set_option linter.unusedSimpArgs false

theorem underTk : Tryd.prog.underlying 23 = some (.slice 29) := by kernel_rfl
theorem infoTk : (Tryd.prog.info? 29).map (fun i => (i.zero, i.size, i.bytes)) = some (some (.agg #[.int .i64 0, .string ⟨#[]⟩, .bool false, .int .i64 0]), 4, 40) := by kernel_rfl
theorem infoTk_parts : ∃ i, Tryd.prog.info? 29 = some i ∧ i.zero = some (.agg #[.int .i64 0, .string ⟨#[]⟩, .bool false, .int .i64 0]) ∧ i.size = 4 ∧ i.bytes = 40 := by
  have h := infoTk
  cases e : Tryd.prog.info? 29 with
  | none => rw [e] at h; cases h
  | some i =>
    rw [e] at h
    simp only [Option.map_some, Option.some.injEq, Prod.mk.injEq] at h
    exact ⟨i, rfl, h.1, h.2.1, h.2.2⟩
theorem news4' (w : World) (o : Obj) (T : TypeId) (p q r u : Value) : ∀ j x, [p, q, r, u][j]? = some x → ((w.alloc o).alloc (.cells #[p, q, r, u] T)).cell? ((⟨w.heap.size + 1, 0, none⟩ : Addr).add j) = some x := by
  have := news4 (w.alloc o) T p q r u
  simpa using this
/-- The answer is a fault. -/
theorem scOut_fault {w w' : World} {l : List UInt8} {c a : Nat} (h : scanL l = .fault c a) (hb : Below w.heap.size w w') : ScOut w w' (scanL l) (.returned (.tuple #[.slice none 0 0, .agg #[.int .i64 c, .int .i64 a]])) := by
  rw [h]; exact ⟨rfl, hb⟩
/-- The answer is a list. -/
theorem scOut_ok {w w' : World} {l : List UInt8} {acc : List Tk} {a : Option Addr} {c : Nat} (h : scanL l = .ok acc) (hl : tkL.list.In w' (fun g => w.heap.size ≤ g) acc [.slice a acc.length c]) (hb : Below w.heap.size w w') : ScOut w w' (scanL l) (.returned (.tuple #[.slice a acc.length c, .agg #[.int .i64 0, .int .i64 0]])) := by
  rw [h]; exact ⟨a, c, rfl, hl, hb⟩

set_option maxHeartbeats 4000000 in
set_option maxRecDepth 100000 in
theorem scan_any (s : ByteArray) (w : World) (hw0 : Laid w) (hs : s.size ≤ maxLen) :
    Calls Tryd.prog 5 #[.string s] w fun e w' => ScOut w w' (scanL s.data.toList) e := by
  unfold maxLen at hs
  by_cases hbig : 40000 < s.size
  · have hV : Hid (scanL s.data.toList = .fault 2 40000) := by
      show _ = _
      rw [scanL, if_pos (by rw [list_len]; exact hbig)]
    generalize s.data.toList = l at hV
    have hbig' : (40000 : Int) < s.size := by omega
    go_enter Tryd.func5, Tryd.ntmps5
    go_wp2
    exact bodyPost_ret (v := .tuple #[.slice none 0 0, .agg #[.int .i64 2, .int .i64 40000]]) (by simp [results, Tryd.results5, go_sem]) rfl (scOut_fault hV.out (bel1 w _))
  · have hw : Hid (Laid w) := hw0
    have hbig' : ¬ (40000 : Int) < s.size := by omega
    have hs2 : s.size ≤ 40000 := by omega
    have hll : s.data.toList.length = s.size := list_len s
    have HL : Hid (s.data.toList.length = s.size) := hll
    obtain ⟨i0, hi, hz0, hz1, hz2⟩ := infoTk_parts
    clear hw0 hll
    go_enter Tryd.func5, Tryd.ntmps5
    go_wp2_with fail
    have S0 : Hid _ := SB.start (T := 29) (w := w) (l := s.data.toList) (by rw [HL.out]; exact hbig)
    have C0 : Hid (∀ w, Calls Tryd.prog 6 #[.string s, .int .i64 0] w fun e w' => e = .returned (.int .i64 ((blk false s.data.toList : Nat) : Int)) ∧ w' = w) := fun w => by
      have := pastBlanks_any s 0 w (Nat.zero_le _) (by omega)
      rw [List.drop_zero, Nat.zero_add] at this
      exact this
    generalize w.alloc (.cells #[.int .i64 0, .int .i64 0] 25) = w1 at S0 ⊢
    go_wp2_with (go_at_call 6; refine (C0.out _).mono ?_; rintro e w' ⟨rfl, rfl⟩)
    clear C0
    go_loopw [4, 5] (fun v i wr => ∃ (pos : Nat) (acc : List Tk) (xs : List Value), i = .int .i64 pos ∧ SB 29 w wr s.data.toList pos v acc xs) (fun _ i _ => s.size - (intOf i).toNat)
    case atStart => exact ⟨_, _, _, rfl, S0.out⟩
    case round =>
      obtain ⟨pos, acc, xs, rfl, hrel⟩ := hrel
      have R : Hid (SB 29 w wr s.data.toList pos u4 acc xs) := hrel
      have hp1 : pos ≤ s.size := by have := hrel.pos_le; rwa [HL.out] at this
      have hacc : acc.length ≤ pos := hrel.len
      have hsz : w.heap.size < wr.heap.size := hrel.flt.lt
      clear hrel S0
      by_cases hlt : pos < s.size
      · have hlt' : (pos : Int) < s.size := by omega
        have C0 := tokenAt_any s pos wr (hw.out.below R.out.bel) hlt (by omega)
        cases ht : tok (s.data.toList.drop pos) with
        | bad c =>
          have hV : Hid (scanL s.data.toList = .fault c pos) := sc_bad R.out.sofar (by rw [HL.out]; exact hlt) ht
          have hc := tok_code ht
          have hc' : ¬ (c : Int) = 0 := by omega
          rw [ht] at C0
          have C1 : Hid (Calls Tryd.prog 7 #[.string s, .int .i64 pos] wr fun e w' => e = .returned (.tuple #[.agg #[.int .i64 0, .string ⟨#[]⟩, .bool false, .int .i64 0], .int .i64 c]) ∧ Below wr.heap.size wr w') := C0
          clear ht hc C0
          go_wp2_with fail
          refine C1.out.mono ?_
          rintro e w2 ⟨rfl, b2⟩
          have hF : Hid (Blk w2 w.heap.size #[.int .i64 0, .int .i64 0] 25) := R.out.flt.below b2
          have hB : Hid (Below w.heap.size w w2) := Below.andThen R.out.bel b2
          have hz : w.heap.size < w2.heap.size := hF.out.lt
          have y0 := cellOf hF.out 0 _ rfl
          have y1 := cellOf hF.out 1 _ rfl
          have z0 := freeOf hF.out 0
          have z1 := freeOf hF.out 1
          clear C1 R b2
          go_wp2
          have D := stored2 hF.out hB.out (Nat.le_refl _) (.int .i64 c) (.int .i64 pos)
          have D1 := D.1.alloc (.cells #[.int .i64 0, .string ⟨#[]⟩, .bool false, .int .i64 0] 29)
          have DD : Hid _ := D.2.alloc D.2.size (.cells #[.int .i64 0, .string ⟨#[]⟩, .bool false, .int .i64 0] 29)
          have x0 := cellOf D1 0 _ rfl
          have x1 := cellOf D1 1 _ rfl
          clear D D1 y0 y1 z0 z1 hF hB
          generalize ((w2.setCell ⟨w.heap.size, 0, none⟩ (.int .i64 c)).setCell ⟨w.heap.size, 1, none⟩ (.int .i64 pos)).alloc (.cells #[.int .i64 0, .string ⟨#[]⟩, .bool false, .int .i64 0] 29) = w9 at DD x0 x1 ⊢
          exact bodyPost_ret (v := .tuple #[.slice none 0 0, .agg #[.int .i64 c, .int .i64 pos]]) (by simp [results, Tryd.results5, go_sem, x0, x1]) rfl (scOut_fault hV.out DD.out)
        | ok k b n =>
          obtain ⟨hk1, hk2, hk3⟩ := tok_pos ht
          rw [List.length_drop, HL.out] at hk2
          clear hk3
          have hT : Hid (tok (s.data.toList.drop pos) = .ok k b n) := ht
          rw [ht] at C0
          have hx : Hid (((s.data.toList.drop pos).take k).length = k) := by show _ = _; rw [List.length_take, List.length_drop, HL.out]; omega
          have C1 : Hid (Calls Tryd.prog 7 #[.string s, .int .i64 pos] wr fun e w' => e = .returned (.tuple #[.agg #[.int .i64 pos, .string (str ((s.data.toList.drop pos).take k)), .bool b, .int .i64 n], .int .i64 0]) ∧ Below wr.heap.size wr w') := C0
          have C2 : Hid (∀ w, Calls Tryd.prog 6 #[.string s, .int .i64 ((pos : Int) + k)] w fun e w' => e = .returned (.int .i64 ((pos + k + blk false (s.data.toList.drop (pos + k)) : Nat) : Int)) ∧ w' = w) := fun w => pastBlanks_any s (pos + k) w (by omega) (by omega)
          have PU : Hid (∀ g cap w4 w9, Below wr.heap.size wr w4 → w9.ownsRow (w.heap.size + 1) 29 4 (.slice (some ⟨g, 0, none⟩) (acc.length + 1) cap) (acc.length + 1) (xs ++ [.int .i64 pos, .string (str ((s.data.toList.drop pos).take k)), .bool b, .int .i64 n]) → w4.grownBy w9 u4.ownBlock → (u4.ownBlock = some g ∨ g = w4.heap.size) →
              ∃ acc' xs', SB 29 w w9 s.data.toList (pos + k + blk false (s.data.toList.drop (pos + k))) (.slice (some ⟨g, 0, none⟩) (acc.length + 1) cap) acc' xs') := fun g cap w4 w9 h0 h1 h2 h3 => ⟨_, _, R.out.push h0 (by rw [HL.out]; exact hlt) hT.out h1 h2 h3⟩
          have hls : Hid ((str ((s.data.toList.drop pos).take k)).size = k) := by show _ = _; rw [str_size]; exact hx.out
          have hown : Hid (wr.ownsRow (w.heap.size + 1) 29 4 u4 acc.length xs) := R.out.row.own
          generalize str ((s.data.toList.drop pos).take k) = tx at C1 PU hls
          generalize hnp : pos + k + blk false (s.data.toList.drop (pos + k)) = np at C2 PU
          have hnp' : Hid (pos < np) := by show _ < _; omega
          clear ht C0 hx hT hnp
          go_wp2_with fail
          refine C1.out.mono ?_
          rintro e w2 ⟨rfl, b2⟩
          have B2 : Hid (Below wr.heap.size wr w2) := b2
          have hz : wr.heap.size ≤ w2.heap.size := b2.size
          have ho2 : Hid (w2.ownsRow (w.heap.size + 1) 29 4 u4 acc.length xs) := (R.out.row.below b2).own
          have hne : Hid (∀ k, u4.ownBlock = some k → k < w2.heap.size) := fun k hk => Nat.lt_of_lt_of_le (R.out.row.lo_le hk).2 hz
          clear C1 R b2 hown
          go_wp2_with (at_builtin; refine wpList_append_lies _ rfl (.tmp 29) (.tmp 31) 23 rfl (w.heap.size + 1) 29 i0 (.agg #[.int .i64 0, .string ⟨#[]⟩, .bool false, .int .i64 0]) 4 40 underTk hi hz0 hz1 hz2 rfl (by decide) _ _ _ rfl ((ho2.out.alloc _).alloc _) ⟨w2.heap.size + 1, 0, none⟩ 1 1 [.int .i64 pos, .string tx, .bool b, .int .i64 n] rfl rfl (news4' _ _ _ _ _ _ _) (one4 _ _ _ _) (by decide) (by unfold maxLen; omega) (by omega) (by simp; omega) (w2.heap.size + 2) (by simp) ?_)
          intro g2 cap2 w9 h1 hgrow hat hlt1
          have U2 : Hid _ := PU.out g2 cap2 _ w9 ((B2.out.alloc hz _).alloc (by simp; omega) _) h1 hgrow (by simpa using hat)
          have hbx : Hid (Blk w9 w2.heap.size #[.int .i64 pos, .string tx, .bool b, .int .i64 n] 29) := (hgrow.block w2.heap.size (by simp; omega) (fun e => by have := hne.out _ e.symm; omega)).trans (Blk.new1 _ _ _ _ _)
          have y1 := cellOf hbx.out 1 _ rfl
          clear h1 hgrow hat hlt1 PU B2 ho2 hne hbx
          have hls' : (tx.size : Int) = k := by have := hls.out; omega
          go_wp2_with (go_at_call 6; refine (C2.out _).mono ?_; rintro e w' ⟨rfl, rfl⟩)
          go_roundw
          case rel =>
            obtain ⟨acc', xs', h⟩ := U2.out
            exact ⟨np, acc', xs', rfl, h⟩
          case measure => have := hnp'.out; simp [intOf]; omega
      · have hlt' : ¬ (pos : Int) < s.size := by omega
        have hV : Hid (scanL s.data.toList = .ok acc) := sc_end R.out.sofar (by rw [HL.out]; exact hlt)
        obtain ⟨a, c, hv, hl⟩ := R.out.cell
        subst hv
        have hF : Hid (Blk wr w.heap.size #[.int .i64 0, .int .i64 0] 25) := R.out.flt
        have hB : Hid (Below w.heap.size w wr) := R.out.bel
        have hL : Hid (tkL.list.In wr (fun g => w.heap.size + 1 ≤ g) acc [.slice a acc.length c]) := hl
        have y0 := cellOf hF.out 0 _ rfl
        have y1 := cellOf hF.out 1 _ rfl
        have z0 := freeOf hF.out 0
        have z1 := freeOf hF.out 1
        clear R hl
        go_wp2
        have D := stored2 hF.out hB.out (Nat.le_refl _) (.int .i64 0) (.int .i64 0)
        have DL : Hid (tkL.list.In ((wr.setCell ⟨w.heap.size, 0, none⟩ (.int .i64 0)).setCell ⟨w.heap.size, 1, none⟩ (.int .i64 0)) (fun g => w.heap.size ≤ g) acc [.slice a acc.length c]) :=
          Lay.mono (Lay.setCell (Lay.setCell hL.out (p := ⟨w.heap.size, 0, none⟩) (by simp) _) (p := ⟨w.heap.size, 1, none⟩) (by simp) _) (fun k hk _ => Nat.le_of_succ_le hk)
        have DD : Hid _ := D.2
        have x0 := cellOf D.1 0 _ rfl
        have x1 := cellOf D.1 1 _ rfl
        clear D y0 y1 z0 z1 hF hB hL
        generalize (wr.setCell ⟨w.heap.size, 0, none⟩ (.int .i64 0)).setCell ⟨w.heap.size, 1, none⟩ (.int .i64 0) = w9 at DD DL x0 x1 ⊢
        exact bodyPost_ret (v := .tuple #[.slice a acc.length c, .agg #[.int .i64 0, .int .i64 0]]) (by simp [results, Tryd.results5, go_sem, x0, x1]) rfl (scOut_ok hV.out DL.out DD.out)
end Go.Proofs.YtlahoehngnebnacDoor
