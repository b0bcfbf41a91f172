/-
  copyholdref.Renamed: the tree under its new names, in new memory.
-/
import Derived.Test.YtpcnlplcpoohgabDoorTypRen2
namespace Go.Proofs.YtpcnlplcpoohgabDoor
open Go.ChangeShapes Go.WideShapes Go.ChangeAt Go.RowKit
set_option linter.unusedVariables false

/-- The box, the result's cells, the type that is made, the row that grows. -/
structure RdX (w wr : World) (k r : Int) (a : Option Addr) (len c : Nat) (r' : Int) (v : Value) {n : Nat} (l : List (TT n)) (xs : List Value) : Prop where
  bx : Bx2 w wr k r a len c
  u : wr.heap[w.heap.size + 2]? = some (.cells #[.int .i64 k, .int .i64 r', v] 24 (0, 0))
  row : TRow wr (w.heap.size + 3) v l xs
section
variable {w wr w' : World} {k r r' : Int} {a : Option Addr} {len c n : Nat} {v : Value} {l : List (TT n)} {xs : List Value}
theorem RdX.start (w : World) (k r : Int) (a : Option Addr) (len c : Nat) (r' : Int) : RdX w (((w.alloc (.cells #[.int .i64 k, .int .i64 r, .slice a len c] 24)).alloc (.cells #[.int .i64 0, .int .i64 0, .slice none 0 0] 24)).alloc (.cells #[.int .i64 k, .int .i64 r', .slice none 0 0] 24)) k r a len c r' (.slice none 0 0) ([] : List (TT n)) [] :=
  ⟨(Bx2.start w k r a len c).below ((Below.refl _ _).alloc (Nat.le_refl _) _), by have := blockNew ((w.alloc (.cells #[.int .i64 k, .int .i64 r, .slice a len c] 24)).alloc (.cells #[.int .i64 0, .int .i64 0, .slice none 0 0] 24)) #[.int .i64 k, .int .i64 r', .slice none 0 0] 24; simpa using this, TRow.nil _ _⟩
theorem RdX.below (h : RdX w wr k r a len c r' v l xs) (b : Below wr.heap.size wr w') : RdX w w' k r a len c r' v l xs := ⟨h.bx.below b, box_cells h.u b, h.row.below b⟩
theorem TRow.setOther (h : TRow w' (w.heap.size + 3) v l xs) (i : Nat) (y : Value) : TRow (w'.setCell ⟨w.heap.size + 2, i, none⟩ y) (w.heap.size + 3) v l xs := by
  obtain ⟨⟨h1, h2⟩, h3⟩ := h
  refine ⟨⟨h1, ?_⟩, fun i x hx => ?_⟩
  · rcases h2 with h4 | ⟨g, cap, cur, e, hg, hh, r⟩
    · exact Or.inl h4
    · exact Or.inr ⟨g, cap, cur, e, hg, (Below.heap_setCell _ _ _ _ (by simp; omega)).trans hh, r⟩
  · obtain ⟨a, c, q0, q1, q2, q3⟩ := h3 i x hx
    exact ⟨a, c, q0, q1, q2, q3.setCell (fun hk => by have := hk.1; simp at this) _⟩
theorem RdX.push (h : RdX w wr k r a len c r' v l xs) {x : TT n} {a' : Option Addr} {c' : Nat} (hx : TIn wr (But (w.heap.size + 3) v) x a')
    {g cap : Nat} (hg : wr.grownBy w' v.ownBlock) (hat : v.ownBlock = some g ∨ g = wr.heap.size)
    (ho : w'.ownsRow (w.heap.size + 3) 24 3 (.slice (some ⟨g, 0, none⟩) (l.length + 1) cap) (l.length + 1) (xs ++ [.int .i64 x.kind, .int .i64 x.r, .slice a' x.len c'])) :
    w'.heap[w.heap.size + 2]? = some (.cells #[.int .i64 k, .int .i64 r', v] 24 (0, 0)) ∧
    RdX w (w'.setCell ⟨w.heap.size + 2, 2, none⟩ (.slice (some ⟨g, 0, none⟩) (l.length + 1) cap)) k r a len c r' (.slice (some ⟨g, 0, none⟩) (l.length + 1) cap) (l ++ [x]) (xs ++ [.int .i64 x.kind, .int .i64 x.r, .slice a' x.len c']) := by
  have kp : ∀ i, i < w.heap.size + 3 → i < wr.heap.size → w'.heap[i]? = wr.heap[i]? := fun i hi hl => hg.block i hl (fun e => by have := (h.row.lo_le e.symm).1; omega)
  have u' := (kp (w.heap.size + 2) (by omega) (lt_of_block h.u)).trans h.u
  have hb' : Below w.heap.size w w' := h.bx.bel.grown hg h.bx.bel.size (fun i e => by have := (h.row.lo_le e).1; omega)
  refine ⟨u', ⟨⟨hb'.setCell (by simp) _, ?_, ?_⟩, ?_, TRow.setOther (h.row.push hx hg hat ho) 2 _⟩⟩
  · exact (Below.heap_setCell _ _ _ _ (by simp)).trans ((kp _ (by omega) (lt_of_block h.bx.box)).trans h.bx.box)
  · exact (Below.heap_setCell _ _ _ _ (by simp)).trans ((kp _ (by omega) (lt_of_block h.bx.res)).trans h.bx.res)
  · have := blockSet u' 2 (.slice (some ⟨g, 0, none⟩) (l.length + 1) cap)
    simpa using this
end
theorem stored_alloc {w wr : World} {b : Nat} {x : Obj} (h : wr.heap[b]? = some x ∧ Below w.heap.size w wr) (o : Obj) : (wr.alloc o).heap[b]? = some x ∧ Below w.heap.size w (wr.alloc o) :=
  ⟨(Below.heap_alloc _ _ _ (lt_of_block h.1)).trans h.1, h.2.alloc h.2.size _⟩
theorem news3' (w : World) (o : Obj) (p q r : Value) : ∀ j u, [p, q, r][j]? = some u → ((w.alloc o).alloc (.cells #[p, q, r] 24)).cell? ((⟨w.heap.size + 1, 0, none⟩ : Addr).add j) = some u := by
  have := news3 (w.alloc o) p q r
  simpa using this

set_option maxHeartbeats 8000000 in
set_option maxRecDepth 100000 in
theorem renamedT_any : ∀ n, RenAt 9 n := by
  intro n
  induction n with
  | zero => intro t; exact Empty.elim t
  | succ n ih =>
    intro t a c b m d nm w ht hct hto0
    have IH : Hid (RenAt 9 n) := ih
    have hto : Hid (ToIn w b m nm) := hto0
    have hT : Hid (LIn w All t.2.2 a) := ht.list
    have hco : Hid (∀ x ∈ t.2.2, x.count ≤ 2000) := fun x hx => by have := t.count_kid hx; omega
    have hlen : t.2.2.length ≤ 2000 := by have := t.len_lt_count; rw [t.len_eq] at this; omega
    have P0 : Hid (renR m nm t.kind t.r = none → t.ren m nm = none) := ren_none_own
    have P1 : Hid (renL (TT.ren m nm) t.2.2 = none → t.ren m nm = none) := ren_none_kid
    have P2 : Hid (∀ r' l', renR m nm t.kind t.r = some r' → renL (TT.ren m nm) t.2.2 = some l' → t.ren m nm = some (mkT t.kind r' l')) := fun r' l' h1 h2 => ren_some_parts h1 h2
    generalize t.ren m nm = res at P0 P1 P2 ⊢
    simp only [Tv, TT.len_eq]
    generalize t.2.2 = l at hT hco hlen P1 P2 ⊢
    generalize t.kind = k at P0 P2 ⊢
    generalize t.r = r at P0 P2 ⊢
    clear ht hct hto0 ih t
    obtain ⟨i0, hi, hz0, hz1, hz2⟩ := infoT_parts
    by_cases hk : k = 1
    · subst hk
      have HR : Hid (renR m nm 1 r = some r) := by show _ = _; simp [renR]
      go_enter Tryd.func9, Tryd.ntmps9
      go_wp2_with fail
      have X0 := RdX.start (n := n) w 1 r a l.length c r
      generalize ((w.alloc (.cells #[.int .i64 1, .int .i64 r, .slice a l.length c] 24)).alloc (.cells #[.int .i64 0, .int .i64 0, .slice none 0 0] 24)).alloc (.cells #[.int .i64 1, .int .i64 r, .slice none 0 0] 24) = w1 at X0 ⊢
      have Y0 : Hid (RdX w w1 1 r a l.length c r (.slice none 0 0) ([] : List (TT n)) []) := X0
      clear X0
      go_loopw [7] (fun i wr => ∃ q : Nat, q ≤ l.length ∧ i = .int .i64 q ∧ ∃ (v : Value) (l' : List (TT n)) (xs : List Value), l'.length = q ∧ (∀ (j : Nat) x, j < q → l[j]? = some x → x.ren m nm = l'[j]?) ∧ RdX w wr 1 r a l.length c r v l' xs) (fun i _ => l.length - (intOf i).toNat)
      case atStart => exact ⟨0, Nat.zero_le _, rfl, _, [], [], rfl, fun j x hj => by omega, Y0.out⟩
      case round =>
        clear Y0
        obtain ⟨q, hq, rfl, v, l', xs, hl', hall, hY⟩ := hrel
        have A : Hid (l'.length = q ∧ ∀ (j : Nat) x, j < q → l[j]? = some x → x.ren m nm = l'[j]?) := ⟨hl', hall⟩
        have Y : Hid (RdX w wr 1 r a l.length c r v l' xs) := hY
        clear hl' hall hY
        have e2 : wr.cell? ⟨w.heap.size, 2, none⟩ = some (.slice a l.length c) := cellOf Y.out.bx.box 2 _ rfl
        by_cases hlt : q < l.length
        · have hx : l[q]? = some l[q] := List.getElem?_eq_getElem hlt
          generalize l[q] = x at hx
          obtain ⟨g, o, a', c', rfl, _, d0, d1, d2, hk⟩ := LIn.at (hT.out.below Y.out.bx.bel) hx
          have hx' : Hid (l[q]? = some x) := hx
          have C : Hid (Calls Tryd.prog 9 #[Tv x a' c', .slice b m d] wr fun e w' => RenOut wr w' (x.ren m nm) e) :=
            IH.out x a' c' b m d nm wr hk (hco.out x (List.mem_of_getElem? hx)) (hto.out.below Y.out.bx.bel)
          clear hk hx
          simp only [Tv] at C
          generalize x.kind = kx at C d0
          generalize x.r = rx at C d1
          generalize x.len = lx at C d2
          have hk0 : (0 : Int) ≤ q := by omega
          have hk1 : (q : Int) < l.length := by omega
          have hk2 : (q : Int) < 2000 := by omega
          go_wp2_with fail
          refine C.out.mono ?_
          rintro e w4 h4
          clear C d0 d1 d2 e2
          cases hxr : x.ren m nm with
          | none =>
            rw [hxr] at h4
            obtain ⟨rfl, b4⟩ := h4
            have hres : res = none := P1.out (renL_none hx'.out hxr)
            subst hres
            have Y4 := Y.out.below b4
            have hsz : w.heap.size + 1 < w4.heap.size := lt_of_block Y4.bx.res
            have D := stored_alloc (Y4.bx.stored 0 0 none 0 0) (.cells #[.int .i64 0, .int .i64 0, .slice none 0 0] 24)
            have DD : Hid (Below w.heap.size w _) := D.2
            have g0 := cellOf Y4.bx.res 0 _ rfl
            have g1 := cellOf Y4.bx.res 1 _ rfl
            have g2 := cellOf Y4.bx.res 2 _ rfl
            have y0 := freeOf Y4.bx.res 0
            have y1 := freeOf Y4.bx.res 1
            have y2 := freeOf Y4.bx.res 2
            have x0 := cellOf D.1 0 _ rfl
            have x1 := cellOf D.1 1 _ rfl
            have x2 := cellOf D.1 2 _ rfl
            clear D Y4 b4 hxr A Y P0 P1 P2
            go_wp2_with fail
            exact bodyPost_ret (v := .tuple #[zeroT, .bool false]) (by simp [results, Tryd.results9, go_sem, x0, x1, x2]) rfl ⟨rfl, DD.out⟩
          | some u =>
            rw [hxr] at h4
            obtain ⟨a4, c4, rfl, t4, b4⟩ := h4
            simp only [Tv]
            have Y4 := Y.out.below b4
            have hsz : w.heap.size + 2 < w4.heap.size := lt_of_block Y4.u
            have hv : w4.cell? ⟨w.heap.size + 2, 2, none⟩ = some v := cellOf Y4.u 2 _ rfl
            have hlq := A.out.1
            have hown := Y4.row.own
            rw [hlq] at hown
            have T4 : TIn w4 (But (w.heap.size + 3) v) u a4 := t4.mono (fun k hk _ => ⟨by have := lt_of_block Y.out.u; have hk' : wr.heap.size ≤ k := hk; omega, fun e => by have := (Y.out.row.lo_le e).2; have hk' : wr.heap.size ≤ k := hk; omega⟩)
            have PU : Hid (∀ g2 cap2 w9, w9.ownsRow (w.heap.size + 3) 24 3 (.slice (some ⟨g2, 0, none⟩) (q + 1) cap2) (q + 1) (xs ++ [.int .i64 u.kind, .int .i64 u.r, .slice a4 u.len c4]) → ((w4.alloc (.cells #[.int .i64 u.kind, .int .i64 u.r, .slice a4 u.len c4] 24)).alloc (.cells #[.int .i64 u.kind, .int .i64 u.r, .slice a4 u.len c4] 24)).grownBy w9 v.ownBlock → (v.ownBlock = some g2 ∨ g2 = w4.heap.size + 1 + 1) →
                (w9.cell? ⟨w.heap.size + 2, 2, none⟩ = some v ∧ w9.frozen? ⟨w.heap.size + 2, 2, none⟩ = false) ∧
                ∃ (v : Value) (l' : List (TT n)) (xs : List Value), v = .slice (some ⟨g2, 0, none⟩) (q + 1) cap2 ∧ l'.length = q + 1 ∧ (∀ (j : Nat) x, j < q + 1 → l[j]? = some x → x.ren m nm = l'[j]?) ∧ RdX w (w9.setCell ⟨w.heap.size + 2, 2, none⟩ v) 1 r (some ⟨g, o, none⟩) l.length c r v l' xs) := by
              intro g2 cap2 w9 h1 h2 h3
              have b5 : Below w4.heap.size w4 ((w4.alloc (.cells #[.int .i64 u.kind, .int .i64 u.r, .slice a4 u.len c4] 24)).alloc (.cells #[.int .i64 u.kind, .int .i64 u.r, .slice a4 u.len c4] 24)) := ((Below.refl _ w4).alloc (Nat.le_refl _) _).alloc (by simp) _
              have := (Y4.below b5).push (x := u) (a' := a4) (c' := c4) (cap := cap2) (g := g2) (T4.below b5) h2 (by simpa using h3) (by rw [hlq]; exact h1)
              rw [hlq] at this
              refine ⟨⟨cellOf this.1 2 _ rfl, freeOf this.1 2⟩, _, _, _, rfl, ?_, fun j y hj hy => ?_, this.2⟩
              · simp [hlq]
              · by_cases e : j = q
                · subst e
                  rw [hx'.out] at hy
                  cases hy
                  rw [hxr, List.getElem?_append_right (by omega), hlq, Nat.sub_self]
                  rfl
                · rw [List.getElem?_append_left (by omega)]
                  exact A.out.2 j y (by omega) hy
            clear Y4 b4 hxr A Y P0 P1 t4 T4 hx' hlq
            generalize u.kind = ku at PU ⊢
            generalize u.r = ru at PU ⊢
            generalize u.len = lu at PU ⊢
            go_wp2_with (at_builtin; refine wpList_append_lies _ rfl (.tmp 63) (.tmp 65) 22 rfl (w.heap.size + 3) 24 i0 (.agg #[.int .i64 0, .int .i64 0, .slice none 0 0]) 3 40 underTs hi hz0 hz1 hz2 rfl (by decide) _ _ _ rfl ((hown.alloc _).alloc _) ⟨w4.heap.size + 1, 0, none⟩ 1 1 [.int .i64 ku, .int .i64 ru, .slice a4 lu c4] rfl rfl (news3' _ _ _ _ _) (one3 _ _ _ _ _) (by decide) (by unfold maxLen; omega) (by omega) (by simp; omega) (w4.heap.size + 1 + 1) (by simp) ?_)
            intro g2 cap2 w9 h1 hgrow hat hlt1
            obtain ⟨⟨s1, s2⟩, U2⟩ := PU.out g2 cap2 w9 h1 hgrow hat
            obtain ⟨_, l2, xs2, rfl, U3⟩ := U2
            have U4 : Hid _ := U3
            clear h1 hgrow hat hlt1 hown PU hv U3
            go_wp2
            go_roundw
            case rel => exact ⟨q + 1, by omega, by go_num, _, l2, xs2, U4.out⟩
            case measure => simp [intOf]; omega
        · have hk1 : ¬ (q : Int) < l.length := by omega
          have hl'l : l'.length = l.length := by have := A.out.1; omega
          have hres : res = some (mkT 1 r l') := P2.out r l' HR.out (renL_iff.2 ⟨hl'l, fun i x hx => A.out.2 i x (by have := (List.getElem?_eq_some_iff.1 hx).1; omega) hx⟩)
          subst hres
          obtain ⟨a5, c5, rfl, L5⟩ := Y.out.row.lin
          rw [hl'l] at Y
          have u0 : wr.cell? ⟨w.heap.size + 2, 0, none⟩ = some (.int .i64 1) := cellOf Y.out.u 0 _ rfl
          have u1 : wr.cell? ⟨w.heap.size + 2, 1, none⟩ = some (.int .i64 r) := cellOf Y.out.u 1 _ rfl
          have u2 : wr.cell? ⟨w.heap.size + 2, 2, none⟩ = some (.slice a5 l.length c5) := cellOf Y.out.u 2 _ rfl
          have g0 := cellOf Y.out.bx.res 0 _ rfl
          have g1 := cellOf Y.out.bx.res 1 _ rfl
          have g2 := cellOf Y.out.bx.res 2 _ rfl
          have y0 := freeOf Y.out.bx.res 0
          have y1 := freeOf Y.out.bx.res 1
          have y2 := freeOf Y.out.bx.res 2
          have D := Y.out.bx.stored 1 r a5 l.length c5
          have x0 := cellOf D.1 0 _ rfl
          have x1 := cellOf D.1 1 _ rfl
          have x2 := cellOf D.1 2 _ rfl
          have O : Hid (RenOut w (((wr.setCell ⟨w.heap.size + 1, 0, none⟩ (.int .i64 1)).setCell ⟨w.heap.size + 1, 1, none⟩ (.int .i64 r)).setCell ⟨w.heap.size + 1, 2, none⟩ (.slice a5 l.length c5)) (some (mkT 1 r l')) (.returned (.tuple #[.agg #[.int .i64 1, .int .i64 r, .slice a5 l.length c5], .bool true]))) := by
            refine ⟨a5, c5, ?_, ?_, D.2⟩
            · show _ = Ending.returned (.tuple #[.agg #[.int .i64 1, .int .i64 r, .slice a5 l'.length c5], .bool true])
              rw [hl'l]
            · have := ((L5.setCell (p := ⟨w.heap.size + 1, 0, none⟩) (by simp) (.int .i64 1)).setCell (p := ⟨w.heap.size + 1, 1, none⟩) (by simp) (.int .i64 r)).setCell (p := ⟨w.heap.size + 1, 2, none⟩) (by simp) (.slice a5 l.length c5)
              exact (LIn.tree this).mono (fun k hk _ => by omega)
          clear D A Y P0 P1 P2 hl'l L5
          go_wp2_with fail
          exact bodyPost_ret (v := .tuple #[.agg #[.int .i64 1, .int .i64 r, .slice a5 l.length c5], .bool true]) (by simp [results, Tryd.results9, go_sem, x0, x1, x2]) rfl O.out
    · have hk' : (k != 1) = true := by simpa using hk
      rcases (show r < 0 ∨ (0 ≤ r ∧ (m : Int) ≤ r) ∨ (0 ≤ r ∧ r < m) by omega) with h1 | ⟨h1, h2⟩ | ⟨h1, h2⟩
      · obtain rfl := P0.out (show renR m nm k r = none by unfold renR; rw [if_neg hk, if_pos (Or.inl h1)])
        clear hk P0 P1 P2
        go_enter Tryd.func9, Tryd.ntmps9
        go_wp2_with fail
        exact bodyPost_ret (v := .tuple #[zeroT, .bool false]) (by simp [results, Tryd.results9, go_sem]) rfl ⟨rfl, (((Below.refl _ w).alloc (Nat.le_refl _) _).alloc (by simp) _).alloc (by simp; omega) _⟩
      · obtain rfl := P0.out (show renR m nm k r = none by unfold renR; rw [if_neg hk, if_pos (Or.inr h2)])
        clear hk P0 P1 P2
        have h3 : ¬ r < 0 := by omega
        go_enter Tryd.func9, Tryd.ntmps9
        go_wp2_with fail
        exact bodyPost_ret (v := .tuple #[zeroT, .bool false]) (by simp [results, Tryd.results9, go_sem]) rfl ⟨rfl, (((Below.refl _ w).alloc (Nat.le_refl _) _).alloc (by simp) _).alloc (by simp; omega) _⟩
      · obtain ⟨j, rfl⟩ := Int.eq_ofNat_of_zero_le h1
        obtain ⟨gb, ob, rfl, hc⟩ := hto.out j (by omega)
        have hgb : gb < w.heap.size := World.block_lt_of_cell? w ⟨gb, ob + j, none⟩ hc
        have hcc : ∀ o1 o2 o3, (((w.alloc o1).alloc o2).alloc o3).cell? ⟨gb, ob + j, none⟩ = some (.int .i64 (nm j)) := fun o1 o2 o3 =>
          (((((Below.refl _ w).alloc (Nat.le_refl _) o1).alloc (by simp) o2).alloc (by simp; omega) o3).cell (p := ⟨gb, ob + j, none⟩) hgb).trans hc
        have h3 : ¬ (j : Int) < 0 := by omega
        have h4 : ¬ (m : Int) ≤ j := by omega
        by_cases hn : nm j < 0
        · obtain rfl := P0.out (show renR m nm k j = none by unfold renR; rw [if_neg hk, if_neg (by omega), if_pos (by simpa using hn)])
          clear hk P0 P1 P2
          generalize nm j = z at hc hn hcc
          go_enter Tryd.func9, Tryd.ntmps9
          go_wp2_with fail
          exact bodyPost_ret (v := .tuple #[zeroT, .bool false]) (by simp [results, Tryd.results9, go_sem]) rfl ⟨rfl, (((Below.refl _ w).alloc (Nat.le_refl _) _).alloc (by simp) _).alloc (by simp; omega) _⟩
        · have HR : Hid (renR m nm k j = some (nm j)) := by show _ = _; unfold renR; rw [if_neg hk, if_neg (by omega), if_neg (by simpa using hn)]; rfl
          clear hk P0
          have P0 : Hid True := trivial
          generalize nm j = z at hc hn HR hcc
          go_enter Tryd.func9, Tryd.ntmps9
          go_wp2_with fail
          clear hcc hc hn h1 h2 h3 h4 hgb
          have X0 := RdX.start (n := n) w k j a l.length c z
          generalize ((w.alloc (.cells #[.int .i64 k, .int .i64 j, .slice a l.length c] 24)).alloc (.cells #[.int .i64 0, .int .i64 0, .slice none 0 0] 24)).alloc (.cells #[.int .i64 k, .int .i64 z, .slice none 0 0] 24) = w1 at X0 ⊢
          have Y0 : Hid (RdX w w1 k j a l.length c z (.slice none 0 0) ([] : List (TT n)) []) := X0
          clear X0
          go_loopw [7] (fun i wr => ∃ q : Nat, q ≤ l.length ∧ i = .int .i64 q ∧ ∃ (v : Value) (l' : List (TT n)) (xs : List Value), l'.length = q ∧ (∀ (j : Nat) x, j < q → l[j]? = some x → x.ren m nm = l'[j]?) ∧ RdX w wr k j a l.length c z v l' xs) (fun i _ => l.length - (intOf i).toNat)
          case atStart => exact ⟨0, Nat.zero_le _, rfl, _, [], [], rfl, fun j x hj => by omega, Y0.out⟩
          case round =>
            clear Y0
            obtain ⟨q, hq, rfl, v, l', xs, hl', hall, hY⟩ := hrel
            have A : Hid (l'.length = q ∧ ∀ (j : Nat) x, j < q → l[j]? = some x → x.ren m nm = l'[j]?) := ⟨hl', hall⟩
            have Y : Hid (RdX w wr k j a l.length c z v l' xs) := hY
            clear hl' hall hY
            have e2 : wr.cell? ⟨w.heap.size, 2, none⟩ = some (.slice a l.length c) := cellOf Y.out.bx.box 2 _ rfl
            by_cases hlt : q < l.length
            · have hx : l[q]? = some l[q] := List.getElem?_eq_getElem hlt
              generalize l[q] = x at hx
              obtain ⟨g, o, a', c', rfl, _, d0, d1, d2, hk⟩ := LIn.at (hT.out.below Y.out.bx.bel) hx
              have hx' : Hid (l[q]? = some x) := hx
              have C : Hid (Calls Tryd.prog 9 #[Tv x a' c', .slice (some ⟨gb, ob, none⟩) m d] wr fun e w' => RenOut wr w' (x.ren m nm) e) :=
                IH.out x a' c' (some ⟨gb, ob, none⟩) m d nm wr hk (hco.out x (List.mem_of_getElem? hx)) (hto.out.below Y.out.bx.bel)
              clear hk hx
              simp only [Tv] at C
              generalize x.kind = kx at C d0
              generalize x.r = rx at C d1
              generalize x.len = lx at C d2
              have hk0 : (0 : Int) ≤ q := by omega
              have hk1 : (q : Int) < l.length := by omega
              have hk2 : (q : Int) < 2000 := by omega
              go_wp2_with fail
              refine C.out.mono ?_
              rintro e w4 h4
              clear C d0 d1 d2 e2
              cases hxr : x.ren m nm with
              | none =>
                rw [hxr] at h4
                obtain ⟨rfl, b4⟩ := h4
                have hres : res = none := P1.out (renL_none hx'.out hxr)
                subst hres
                have Y4 := Y.out.below b4
                have hsz : w.heap.size + 1 < w4.heap.size := lt_of_block Y4.bx.res
                have D := stored_alloc (Y4.bx.stored 0 0 none 0 0) (.cells #[.int .i64 0, .int .i64 0, .slice none 0 0] 24)
                have DD : Hid (Below w.heap.size w _) := D.2
                have g0 := cellOf Y4.bx.res 0 _ rfl
                have g1 := cellOf Y4.bx.res 1 _ rfl
                have g2 := cellOf Y4.bx.res 2 _ rfl
                have y0 := freeOf Y4.bx.res 0
                have y1 := freeOf Y4.bx.res 1
                have y2 := freeOf Y4.bx.res 2
                have x0 := cellOf D.1 0 _ rfl
                have x1 := cellOf D.1 1 _ rfl
                have x2 := cellOf D.1 2 _ rfl
                clear D Y4 b4 hxr A Y P0 P1 P2
                go_wp2_with fail
                exact bodyPost_ret (v := .tuple #[zeroT, .bool false]) (by simp [results, Tryd.results9, go_sem, x0, x1, x2]) rfl ⟨rfl, DD.out⟩
              | some u =>
                rw [hxr] at h4
                obtain ⟨a4, c4, rfl, t4, b4⟩ := h4
                simp only [Tv]
                have Y4 := Y.out.below b4
                have hsz : w.heap.size + 2 < w4.heap.size := lt_of_block Y4.u
                have hv : w4.cell? ⟨w.heap.size + 2, 2, none⟩ = some v := cellOf Y4.u 2 _ rfl
                have hlq := A.out.1
                have hown := Y4.row.own
                rw [hlq] at hown
                have T4 : TIn w4 (But (w.heap.size + 3) v) u a4 := t4.mono (fun k hk _ => ⟨by have := lt_of_block Y.out.u; have hk' : wr.heap.size ≤ k := hk; omega, fun e => by have := (Y.out.row.lo_le e).2; have hk' : wr.heap.size ≤ k := hk; omega⟩)
                have PU : Hid (∀ g2 cap2 w9, w9.ownsRow (w.heap.size + 3) 24 3 (.slice (some ⟨g2, 0, none⟩) (q + 1) cap2) (q + 1) (xs ++ [.int .i64 u.kind, .int .i64 u.r, .slice a4 u.len c4]) → ((w4.alloc (.cells #[.int .i64 u.kind, .int .i64 u.r, .slice a4 u.len c4] 24)).alloc (.cells #[.int .i64 u.kind, .int .i64 u.r, .slice a4 u.len c4] 24)).grownBy w9 v.ownBlock → (v.ownBlock = some g2 ∨ g2 = w4.heap.size + 1 + 1) →
                    (w9.cell? ⟨w.heap.size + 2, 2, none⟩ = some v ∧ w9.frozen? ⟨w.heap.size + 2, 2, none⟩ = false) ∧
                    ∃ (v : Value) (l' : List (TT n)) (xs : List Value), v = .slice (some ⟨g2, 0, none⟩) (q + 1) cap2 ∧ l'.length = q + 1 ∧ (∀ (j : Nat) x, j < q + 1 → l[j]? = some x → x.ren m nm = l'[j]?) ∧ RdX w (w9.setCell ⟨w.heap.size + 2, 2, none⟩ v) k j (some ⟨g, o, none⟩) l.length c z v l' xs) := by
                  intro g2 cap2 w9 h1 h2 h3
                  have b5 : Below w4.heap.size w4 ((w4.alloc (.cells #[.int .i64 u.kind, .int .i64 u.r, .slice a4 u.len c4] 24)).alloc (.cells #[.int .i64 u.kind, .int .i64 u.r, .slice a4 u.len c4] 24)) := ((Below.refl _ w4).alloc (Nat.le_refl _) _).alloc (by simp) _
                  have := (Y4.below b5).push (x := u) (a' := a4) (c' := c4) (cap := cap2) (g := g2) (T4.below b5) h2 (by simpa using h3) (by rw [hlq]; exact h1)
                  rw [hlq] at this
                  refine ⟨⟨cellOf this.1 2 _ rfl, freeOf this.1 2⟩, _, _, _, rfl, ?_, fun j y hj hy => ?_, this.2⟩
                  · simp [hlq]
                  · by_cases e : j = q
                    · subst e
                      rw [hx'.out] at hy
                      cases hy
                      rw [hxr, List.getElem?_append_right (by omega), hlq, Nat.sub_self]
                      rfl
                    · rw [List.getElem?_append_left (by omega)]
                      exact A.out.2 j y (by omega) hy
                clear Y4 b4 hxr A Y P0 P1 t4 T4 hx' hlq
                generalize u.kind = ku at PU ⊢
                generalize u.r = ru at PU ⊢
                generalize u.len = lu at PU ⊢
                go_wp2_with (at_builtin; refine wpList_append_lies _ rfl (.tmp 63) (.tmp 65) 22 rfl (w.heap.size + 3) 24 i0 (.agg #[.int .i64 0, .int .i64 0, .slice none 0 0]) 3 40 underTs hi hz0 hz1 hz2 rfl (by decide) _ _ _ rfl ((hown.alloc _).alloc _) ⟨w4.heap.size + 1, 0, none⟩ 1 1 [.int .i64 ku, .int .i64 ru, .slice a4 lu c4] rfl rfl (news3' _ _ _ _ _) (one3 _ _ _ _ _) (by decide) (by unfold maxLen; omega) (by omega) (by simp; omega) (w4.heap.size + 1 + 1) (by simp) ?_)
                intro g2 cap2 w9 h1 hgrow hat hlt1
                obtain ⟨⟨s1, s2⟩, U2⟩ := PU.out g2 cap2 w9 h1 hgrow hat
                obtain ⟨_, l2, xs2, rfl, U3⟩ := U2
                have U4 : Hid _ := U3
                clear h1 hgrow hat hlt1 hown PU hv U3
                go_wp2
                go_roundw
                case rel => exact ⟨q + 1, by omega, by go_num, _, l2, xs2, U4.out⟩
                case measure => simp [intOf]; omega
            · have hk1 : ¬ (q : Int) < l.length := by omega
              have hl'l : l'.length = l.length := by have := A.out.1; omega
              have hres : res = some (mkT k z l') := P2.out z l' HR.out (renL_iff.2 ⟨hl'l, fun i x hx => A.out.2 i x (by have := (List.getElem?_eq_some_iff.1 hx).1; omega) hx⟩)
              subst hres
              obtain ⟨a5, c5, rfl, L5⟩ := Y.out.row.lin
              rw [hl'l] at Y
              have u0 : wr.cell? ⟨w.heap.size + 2, 0, none⟩ = some (.int .i64 k) := cellOf Y.out.u 0 _ rfl
              have u1 : wr.cell? ⟨w.heap.size + 2, 1, none⟩ = some (.int .i64 z) := cellOf Y.out.u 1 _ rfl
              have u2 : wr.cell? ⟨w.heap.size + 2, 2, none⟩ = some (.slice a5 l.length c5) := cellOf Y.out.u 2 _ rfl
              have g0 := cellOf Y.out.bx.res 0 _ rfl
              have g1 := cellOf Y.out.bx.res 1 _ rfl
              have g2 := cellOf Y.out.bx.res 2 _ rfl
              have y0 := freeOf Y.out.bx.res 0
              have y1 := freeOf Y.out.bx.res 1
              have y2 := freeOf Y.out.bx.res 2
              have D := Y.out.bx.stored k z a5 l.length c5
              have x0 := cellOf D.1 0 _ rfl
              have x1 := cellOf D.1 1 _ rfl
              have x2 := cellOf D.1 2 _ rfl
              have O : Hid (RenOut w (((wr.setCell ⟨w.heap.size + 1, 0, none⟩ (.int .i64 k)).setCell ⟨w.heap.size + 1, 1, none⟩ (.int .i64 z)).setCell ⟨w.heap.size + 1, 2, none⟩ (.slice a5 l.length c5)) (some (mkT k z l')) (.returned (.tuple #[.agg #[.int .i64 k, .int .i64 z, .slice a5 l.length c5], .bool true]))) := by
                refine ⟨a5, c5, ?_, ?_, D.2⟩
                · show _ = Ending.returned (.tuple #[.agg #[.int .i64 k, .int .i64 z, .slice a5 l'.length c5], .bool true])
                  rw [hl'l]
                · have := ((L5.setCell (p := ⟨w.heap.size + 1, 0, none⟩) (by simp) (.int .i64 k)).setCell (p := ⟨w.heap.size + 1, 1, none⟩) (by simp) (.int .i64 z)).setCell (p := ⟨w.heap.size + 1, 2, none⟩) (by simp) (.slice a5 l.length c5)
                  exact (LIn.tree this).mono (fun k hk _ => by omega)
              clear D A Y P0 P1 P2 hl'l L5
              go_wp2_with fail
              exact bodyPost_ret (v := .tuple #[.agg #[.int .i64 k, .int .i64 z, .slice a5 l.length c5], .bool true]) (by simp [results, Tryd.results9, go_sem, x0, x1, x2]) rfl O.out
end Go.Proofs.YtpcnlplcpoohgabDoor
