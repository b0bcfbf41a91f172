/-
  types.Rename: the tree under its new names, in new memory.
-/
import Derived.Test.YtpcnlplcpoohgabDoorTypRen
namespace Go.Proofs.YtpcnlplcpoohgabDoor
open Go.ChangeShapes Go.WideShapes Go.ChangeAt Go.RowKit
set_option linter.unusedVariables false

abbrev zeroT : Value := .agg #[.int .i64 0, .int .i64 0, .slice none 0 0]
/-- A tree in new memory and true, or the zero type and false; nothing old has turned. -/
def RenOut {n : Nat} (w w' : World) (o : Option (TT n)) (e : Ending) : Prop := match o with
  | some u => ∃ a' c', e = .returned (.tuple #[Tv u a' c', .bool true]) ∧ TIn w' (From w.heap.size) u a' ∧ Below w.heap.size w w'
  | none => e = .returned (.tuple #[zeroT, .bool false]) ∧ Below w.heap.size w w'
def RenAt (f n : Nat) : Prop := ∀ (t : TT n) (a : Option Addr) (c : Nat) (b : Option Addr) (m d : Nat) (nm : Nat → Int) (w : World), TIn w All t a → t.count ≤ 2000 → ToIn w b m nm →
    Calls Tryd.prog f #[Tv t a c, .slice b m d] w fun e w' => RenOut w w' (t.ren m nm) e

theorem make_ts (w : World) (len : Nat) (h : len ≤ 2000) : (Instr.makeSlice 22 (.int .i64 len) (.int .i64 len)).run Tryd.prog w = .ok (.slice (some ⟨w.heap.size, 0, none⟩) len len) (w.alloc (.cells (madeCells #[.int .i64 0, .int .i64 0, .slice none 0 0] (len * 3)) 24)) := by
  obtain ⟨i0, hi, hz0, hz1, hz2⟩ := infoT_parts
  have := run_make (P := Tryd.prog) w 22 24 i0 _ underTs hi hz0 .i64 .i64 len len (by omega) (by omega) (by rw [hz2]; omega) (by omega)
  rw [hz1] at this
  exact this

/-- The box, the result's cells, the row that is filled. -/
structure RnX (w wr : World) (k r : Int) (a : Option Addr) (len c G : Nat) {n : Nat} (l : List (TT n)) : Prop where
  bx : Bx2 w wr k r a len c
  row : MRow wr G len l
  hG : w.heap.size + 1 < G
section
variable {w wr w' : World} {k r : Int} {a : Option Addr} {len c G n : Nat} {l : List (TT n)}
theorem RnX.start (h : Bx2 w wr k r a len c) : RnX w (wr.alloc (.cells (madeCells #[.int .i64 0, .int .i64 0, .slice none 0 0] (len * 3)) 24)) k r a len c wr.heap.size ([] : List (TT n)) :=
  ⟨h.below ((Below.refl _ wr).alloc (Nat.le_refl _) _), ⟨_, blockNew wr _ _, size_madeCells _ _, fun i x hx => by simp at hx⟩, lt_of_block h.res⟩
theorem RnX.below (h : RnX w wr k r a len c G l) (b : Below wr.heap.size wr w') : RnX w w' k r a len c G l := ⟨h.bx.below b, h.row.below b, h.hG⟩
theorem Bx2.setG (h : Bx2 w wr k r a len c) (hG : w.heap.size + 1 < G) (i : Nat) (v : Value) : Bx2 w (wr.setCell ⟨G, i, none⟩ v) k r a len c :=
  ⟨h.bel.setCell (by simp; omega) _, (Below.heap_setCell _ _ _ _ (by simp; omega)).trans h.box, (Below.heap_setCell _ _ _ _ (by simp; omega)).trans h.res⟩
theorem RnX.set (h : RnX w wr k r a len c G l) {q : Nat} (hl : l.length = q) (hq : q < len) {x : TT n} {a' : Option Addr} {c' : Nat} (hx : TIn wr (From (G + 1)) x a') :
    RnX w (((wr.setCell ⟨G, q * 3, none⟩ (.int .i64 x.kind)).setCell ⟨G, q * 3 + 1, none⟩ (.int .i64 x.r)).setCell ⟨G, q * 3 + 2, none⟩ (.slice a' x.len c')) k r a len c G (l ++ [x]) :=
  ⟨((h.bx.setG h.hG _ _).setG h.hG _ _).setG h.hG _ _, h.row.set hl hq hx, h.hG⟩
end

theorem ren_some_parts {m : Nat} {nm : Nat → Int} {n : Nat} {t : TT (n + 1)} {r' : Int} (h1 : renR m nm t.kind t.r = some r') {l' : List (TT n)} (h2 : renL (TT.ren m nm) t.2.2 = some l') : t.ren m nm = some (mkT t.kind r' l') := by
  show (match renR m nm t.1 t.2.1 with | none => none | some r => match renL (TT.ren (n := n) m nm) t.2.2 with | none => none | some l => some ((t.1, r, l) : Int × Int × List (TT n))) = _
  have h1' : renR m nm t.1 t.2.1 = some r' := h1
  rw [h1', h2]
  rfl
theorem ren_none_own {m : Nat} {nm : Nat → Int} {n : Nat} {t : TT (n + 1)} (h1 : renR m nm t.kind t.r = none) : t.ren m nm = none := by
  show (match renR m nm t.1 t.2.1 with | none => none | some r => match renL (TT.ren (n := n) m nm) t.2.2 with | none => none | some l => some ((t.1, r, l) : Int × Int × List (TT n))) = _
  have h1' : renR m nm t.1 t.2.1 = none := h1
  rw [h1']
  rfl
theorem ren_none_kid {m : Nat} {nm : Nat → Int} {n : Nat} {t : TT (n + 1)} (h2 : renL (TT.ren m nm) t.2.2 = none) : t.ren m nm = none := by
  show (match renR m nm t.1 t.2.1 with | none => none | some r => match renL (TT.ren (n := n) m nm) t.2.2 with | none => none | some l => some ((t.1, r, l) : Int × Int × List (TT n))) = _
  rw [h2]
  cases renR m nm t.1 t.2.1 <;> rfl

set_option maxHeartbeats 4000000 in
set_option maxRecDepth 100000 in
theorem rename_any : ∀ n, RenAt 8 n := by
  intro n
  induction n with
  | zero => intro t; exact Empty.elim t
  | succ n ih =>
    intro t a c b m d nm w ht hct hto0
    have IH : Hid (RenAt 8 n) := ih
    have hto : Hid (ToIn w b m nm) := hto0
    have hT : Hid (LIn w All t.2.2 a) := ht.list
    have hco : Hid (∀ x ∈ t.2.2, x.count ≤ 2000) := fun x hx => by have := t.count_kid hx; omega
    have hlen : t.2.2.length ≤ 2000 := by have := t.len_lt_count; rw [t.len_eq] at this; omega
    have P0 : Hid (renR m nm t.kind t.r = none → t.ren m nm = none) := ren_none_own
    have P1 : Hid (renL (TT.ren m nm) t.2.2 = none → t.ren m nm = none) := ren_none_kid
    have P2 : Hid (∀ r' l', renR m nm t.kind t.r = some r' → renL (TT.ren m nm) t.2.2 = some l' → t.ren m nm = some (mkT t.kind r' l')) := fun r' l' h1 h2 => ren_some_parts h1 h2
    generalize t.ren m nm = res at P0 P1 P2 ⊢
    simp only [Tv, TT.len_eq]
    generalize t.2.2 = l at hT hco hlen P1 P2 ⊢
    generalize t.kind = k at P0 P2 ⊢
    generalize t.r = r at P0 P2 ⊢
    clear ht hct hto0 ih t
    go_enter Tryd.func8, Tryd.ntmps8
    go_wp2_with fail
    have X1 : Hid (Bx2 w ((w.alloc (.cells #[.int .i64 k, .int .i64 r, .slice a l.length c] 24)).alloc (.cells #[.int .i64 0, .int .i64 0, .slice none 0 0] 24)) k r a l.length c) := Bx2.start w k r a l.length c
    generalize (w.alloc (.cells #[.int .i64 k, .int .i64 r, .slice a l.length c] 24)).alloc (.cells #[.int .i64 0, .int .i64 0, .slice none 0 0] 24) = w1 at X1 ⊢
    refine (renamed_any k r a l.length c b m d nm w1 (hto.out.below X1.out.bel)).mono ?_
    rintro e w2 ⟨hr, b2⟩
    have X2 : Hid (Bx2 w w2 k r a l.length c) := X1.out.below b2
    clear X1 b2
    have e2 : w2.cell? ⟨w.heap.size, 2, none⟩ = some (.slice a l.length c) := cellOf X2.out.box 2 _ rfl
    cases hrr : renR m nm k r with
    | none =>
      rw [hrr] at hr
      obtain rfl : e = _ := hr
      have hres : res = none := P0.out hrr
      subst hres
      have D := X2.out.stored 0 0 none 0 0
      have DD : Hid (Below w.heap.size w _) := D.2
      have g0 := cellOf X2.out.res 0 _ rfl
      have g1 := cellOf X2.out.res 1 _ rfl
      have g2 := cellOf X2.out.res 2 _ rfl
      have z0 := freeOf X2.out.res 0
      have z1 := freeOf X2.out.res 1
      have z2 := freeOf X2.out.res 2
      have x0 := cellOf D.1 0 _ rfl
      have x1 := cellOf D.1 1 _ rfl
      have x2 := cellOf D.1 2 _ rfl
      clear D hrr P0 P1 P2
      go_wp2_with fail
      exact bodyPost_ret (v := .tuple #[zeroT, .bool false]) (by simp [results, Tryd.results8, go_sem, x0, x1, x2]) rfl ⟨rfl, DD.out⟩
    | some r' =>
      rw [hrr] at hr
      obtain rfl : e = _ := hr
      have HR : Hid (renR m nm k r = some r') := hrr
      clear hrr
      have hmk := make_ts w2 l.length hlen
      have hsz : w.heap.size < w2.heap.size := lt_of_block X2.out.box
      go_wp2_with fail
      have Y0 : Hid (RnX w (w2.alloc (.cells (madeCells #[.int .i64 0, .int .i64 0, .slice none 0 0] (l.length * 3)) 24)) k r a l.length c w2.heap.size ([] : List (TT n))) := RnX.start X2.out
      generalize w2.alloc (.cells (madeCells #[.int .i64 0, .int .i64 0, .slice none 0 0] (l.length * 3)) 24) = w3 at Y0 ⊢
      generalize w2.heap.size = G at Y0 ⊢
      clear hmk e2 X2 hsz
      go_loopw [27] (fun i wr => ∃ q : Nat, q ≤ l.length ∧ i = .int .i64 q ∧ ∃ l' : List (TT n), l'.length = q ∧ (∀ (j : Nat) x, j < q → l[j]? = some x → x.ren m nm = l'[j]?) ∧ RnX w wr k r a l.length c G l') (fun i _ => l.length - (intOf i).toNat)
      case atStart => exact ⟨0, Nat.zero_le _, rfl, [], rfl, fun j x hj => by omega, Y0.out⟩
      case round =>
        clear Y0
        obtain ⟨q, hq, rfl, l', hl', hall, hY⟩ := hrel
        have A : Hid (l'.length = q ∧ ∀ (j : Nat) x, j < q → l[j]? = some x → x.ren m nm = l'[j]?) := ⟨hl', hall⟩
        have Y : Hid (RnX w wr k r a l.length c G l') := hY
        clear hl' hall hY
        by_cases hlt : q < l.length
        · have hx : l[q]? = some l[q] := List.getElem?_eq_getElem hlt
          generalize l[q] = x at hx
          obtain ⟨g, o, a', c', rfl, _, d0, d1, d2, hk⟩ := LIn.at (hT.out.below Y.out.bx.bel) hx
          have hg : g < wr.heap.size := World.block_lt_of_cell? wr ⟨g, o + q * 3, none⟩ d0
          have hx' : Hid (l[q]? = some x) := hx
          have C : Hid (∀ wx, Below wr.heap.size wr wx → Calls Tryd.prog 8 #[Tv x a' c', .slice b m d] wx fun e w' => RenOut wx w' (x.ren m nm) e) :=
            fun wx hb => IH.out x a' c' b m d nm wx (hk.below hb) (hco.out x (List.mem_of_getElem? hx)) ((hto.out.below Y.out.bx.bel).below hb)
          clear hk hx
          simp only [Tv] at C
          generalize x.kind = kx at C d0
          generalize x.r = rx at C d1
          generalize x.len = lx at C d2
          have hk0 : (0 : Int) ≤ q := by omega
          have hk1 : (q : Int) < l.length := by omega
          have hk2 : (q : Int) < 2000 := by omega
          go_wp2_with fail
          have B1 : Below wr.heap.size wr (wr.alloc (.cells #[.int .i64 kx, .int .i64 rx, .slice a' lx c'] 24)) := (Below.refl _ wr).alloc (Nat.le_refl _) _
          refine (C.out _ B1).mono ?_
          rintro e w4 h4
          clear C d0 d1 d2
          cases hxr : x.ren m nm with
          | none =>
            rw [hxr] at h4
            obtain ⟨rfl, b4⟩ := h4
            have hres : res = none := P1.out (renL_none hx'.out hxr)
            subst hres
            have Y4 := (Y.out.below B1).below b4
            have hq3 : q * 3 + 2 < l.length * 3 := by omega
            obtain ⟨v0, r0⟩ := Y4.row.has (q * 3) (by omega)
            obtain ⟨v1, r1⟩ := Y4.row.has (q * 3 + 1) (by omega)
            obtain ⟨v2, r2⟩ := Y4.row.has (q * 3 + 2) (by omega)
            have z0 := Y4.row.frozen (q * 3)
            have z1 := Y4.row.frozen (q * 3 + 1)
            have z2 := Y4.row.frozen (q * 3 + 2)
            have X5 := ((Y4.bx.setG Y4.hG (q * 3) (.int .i64 0)).setG Y4.hG (q * 3 + 1) (.int .i64 0)).setG Y4.hG (q * 3 + 2) (.slice none 0 0)
            have D := X5.stored 0 0 none 0 0
            have DD : Hid (Below w.heap.size w _) := D.2
            have g0 := cellOf Y4.bx.res 0 _ rfl
            have g1 := cellOf Y4.bx.res 1 _ rfl
            have g2 := cellOf Y4.bx.res 2 _ rfl
            have y0 := freeOf Y4.bx.res 0
            have y1 := freeOf Y4.bx.res 1
            have y2 := freeOf Y4.bx.res 2
            have x0 := cellOf D.1 0 _ rfl
            have x1 := cellOf D.1 1 _ rfl
            have x2 := cellOf D.1 2 _ rfl
            have hne : ¬ w.heap.size + 1 = G := by have := Y4.hG; omega
            have hne' : ¬ G = w.heap.size + 1 := by have := Y4.hG; omega
            clear D X5 Y4 b4 B1 hxr A Y P0 P1 P2 hq3
            go_wp2_with fail
            exact bodyPost_ret (v := .tuple #[zeroT, .bool false]) (by simp [results, Tryd.results8, go_sem, x0, x1, x2]) rfl ⟨rfl, DD.out⟩
          | some u =>
            rw [hxr] at h4
            obtain ⟨a4, c4, rfl, t4, b4⟩ := h4
            simp only [Tv]
            have Y4 := (Y.out.below B1).below b4
            have hq3 : q * 3 + 2 < l.length * 3 := by omega
            obtain ⟨v0, r0⟩ := Y4.row.has (q * 3) (by omega)
            obtain ⟨v1, r1⟩ := Y4.row.has (q * 3 + 1) (by omega)
            obtain ⟨v2, r2⟩ := Y4.row.has (q * 3 + 2) (by omega)
            have z0 := Y4.row.frozen (q * 3)
            have z1 := Y4.row.frozen (q * 3 + 1)
            have z2 := Y4.row.frozen (q * 3 + 2)
            have hGl := Y.out.row.lt
            have Y5 := Y4.set A.out.1 hlt (x := u) (a' := a4) (c' := c4) (t4.mono (fun k hk _ => by have := B1.size; simp at hk; omega))
            have Z : Hid (∃ l' : List (TT n), l'.length = q + 1 ∧ (∀ (j : Nat) x, j < q + 1 → l[j]? = some x → x.ren m nm = l'[j]?) ∧ RnX w (((w4.setCell ⟨G, q * 3, none⟩ (.int .i64 u.kind)).setCell ⟨G, q * 3 + 1, none⟩ (.int .i64 u.r)).setCell ⟨G, q * 3 + 2, none⟩ (.slice a4 u.len c4)) k r (some ⟨g, o, none⟩) l.length c G l') := by
              refine ⟨l' ++ [u], by simp [A.out.1], fun j y hj hy => ?_, Y5⟩
              by_cases e : j = q
              · subst e
                rw [hx'.out] at hy
                cases hy
                rw [hxr, List.getElem?_append_right (by have := A.out.1; omega), A.out.1, Nat.sub_self]
                rfl
              · rw [List.getElem?_append_left (by have := A.out.1; omega)]
                exact A.out.2 j y (by omega) hy
            clear Y5 Y4 b4 B1 hxr A Y P0 P1 hq3 t4 hx' hGl
            generalize u.kind = ku at Z ⊢
            generalize u.r = ru at Z ⊢
            generalize u.len = lu at Z ⊢
            go_wp2
            go_roundw
            case rel => exact ⟨q + 1, by omega, by go_num, Z.out⟩
            case measure => simp [intOf]; omega
        · have hk1 : ¬ (q : Int) < l.length := by omega
          have hl'l : l'.length = l.length := by have := A.out.1; omega
          have hres : res = some (mkT k r' l') := P2.out r' l' HR.out (renL_iff.2 ⟨hl'l, fun i x hx => A.out.2 i x (by have := (List.getElem?_eq_some_iff.1 hx).1; omega) hx⟩)
          subst hres
          have e0 : wr.cell? ⟨w.heap.size, 0, none⟩ = some (.int .i64 k) := cellOf Y.out.bx.box 0 _ rfl
          have g0 := cellOf Y.out.bx.res 0 _ rfl
          have g1 := cellOf Y.out.bx.res 1 _ rfl
          have g2 := cellOf Y.out.bx.res 2 _ rfl
          have y0 := freeOf Y.out.bx.res 0
          have y1 := freeOf Y.out.bx.res 1
          have y2 := freeOf Y.out.bx.res 2
          have D := Y.out.bx.stored k r' (some ⟨G, 0, none⟩) l.length l.length
          have x0 := cellOf D.1 0 _ rfl
          have x1 := cellOf D.1 1 _ rfl
          have x2 := cellOf D.1 2 _ rfl
          have hGb := Y.out.hG
          have O : Hid (RenOut w (((wr.setCell ⟨w.heap.size + 1, 0, none⟩ (.int .i64 k)).setCell ⟨w.heap.size + 1, 1, none⟩ (.int .i64 r')).setCell ⟨w.heap.size + 1, 2, none⟩ (.slice (some ⟨G, 0, none⟩) l.length l.length)) (some (mkT k r' l')) (.returned (.tuple #[.agg #[.int .i64 k, .int .i64 r', .slice (some ⟨G, 0, none⟩) l.length l.length], .bool true]))) := by
            refine ⟨some ⟨G, 0, none⟩, l.length, ?_, ?_, D.2⟩
            · show _ = Ending.returned (.tuple #[.agg #[.int .i64 k, .int .i64 r', .slice (some ⟨G, 0, none⟩) l'.length l.length], .bool true])
              rw [hl'l]
            · have := ((Y.out.row.lin.setCell (p := ⟨w.heap.size + 1, 0, none⟩) (by simp; omega) (.int .i64 k)).setCell (p := ⟨w.heap.size + 1, 1, none⟩) (by simp; omega) (.int .i64 r')).setCell (p := ⟨w.heap.size + 1, 2, none⟩) (by simp; omega) (.slice (some ⟨G, 0, none⟩) l.length l.length)
              exact (LIn.tree this).mono (fun k hk _ => by omega)
          clear D A Y P0 P1 P2 hl'l
          go_wp2_with fail
          exact bodyPost_ret (v := .tuple #[.agg #[.int .i64 k, .int .i64 r', .slice (some ⟨G, 0, none⟩) l.length l.length], .bool true]) (by simp [results, Tryd.results8, go_sem, x0, x1, x2]) rfl O.out
end Go.Proofs.YtpcnlplcpoohgabDoor
