/-
  The document's own estate (copyholdref.Lands) in memory: its block, its pool, its regions in one row, their pages in rows of their own; what stays where one of them turns.
-/
import Derived.Test.YtphindejlinleaaEstMem
import Derived.Test.YtphindejlinleaaRoomSt
import Derived.Test.YtphindejlinleaaPages
namespace Go.Proofs.Ytphindejlinleaa
open Go.ChangeShapes Go.WideShapes Go.ChangeAt Go.RowKit
set_option linter.unusedVariables false

theorem PagesAt.step {w w' : World} {b : Nat} {O P P' : Nat → Prop} {s : St} (h : PagesAt w b O s) (k : Step P P' w w') (hd : ∀ x, O x → ¬ P x) : PagesAt w' b O s := by
  obtain ⟨gw, n, vg, hb, hr, hg, ho, how, hn, hok⟩ := h
  exact ⟨gw, n, vg, k.keep hb (hd b ho), hr.of_block (k.block gw hr.lt (hd gw how)), hg.step k hd, ho, how, hn, hok⟩
theorem PagesAt.mono {w : World} {b : Nat} {O O' : Nat → Prop} {s : St} (h : PagesAt w b O s) (hO : ∀ x, O x → x < w.heap.size → O' x) : PagesAt w b O' s := by
  obtain ⟨gw, n, vg, hb, hr, hg, ho, how, hn, hok⟩ := h
  exact ⟨gw, n, vg, hb, hr, hg.mono hO, hO b ho (lt_of_block hb), hO gw how hr.lt, hn, hok⟩

def landF (e : Est) (v : Nat → Value) : Nat → Value := fun i => if i % 3 = 0 then .bool (e.reg (i / 3)).isSome else if i % 3 = 1 then v (i / 3) else .int .i64 (e.usedAt (i / 3))

/-- Its parts: block x is its own (L x = 1), its pool's (2), the regions' row (3), or the pages' of the region k (k + 4). -/
structure LParts (w : World) (b : Nat) (O : Nat → Prop) (e : Est) (L : Nat → Nat) (bp gl : Nat) (v : Nat → Value) : Prop where
  blk : w.heap[b]? = some (.cells #[.pointer (some ⟨bp, 0, none⟩), .slice (some ⟨gl, 0, none⟩) 16 16] 66 (0, 0))
  own : L b = 1
  lands : w.rowIs gl 70 48 (landF e v)
  ownG : L gl = 3
  pool : PagesAt w bp (fun x => L x = 2) e.p
  rows : ∀ k, k < 16 → Row w (fun x => L x = k + 4) 3 (v k) (e.pagesAt k)
  all : ∀ x, L x ≠ 0 → O x ∧ x < w.heap.size

def LandMem (w : World) (b bp gl : Nat) (O : Nat → Prop) (e : Est) : Prop := ∃ L v, LParts w b O e L bp gl v
def LandAt (w : World) (b bp gl : Nat) (O : Nat → Prop) (e : Est) : Prop := LandMem w b bp gl O e ∧ e.Ok

section
variable {w w' : World} {b bp gl : Nat} {O O' P P' : Nat → Prop} {e : Est} {L : Nat → Nat} {v : Nat → Value}

theorem LParts.cells (h : LParts w b O e L bp gl v) : w.cell? ⟨b, 0, none⟩ = some (.pointer (some ⟨bp, 0, none⟩)) ∧ w.cell? ⟨b, 1, none⟩ = some (.slice (some ⟨gl, 0, none⟩) 16 16) := ⟨cellOf h.blk 0 _ rfl, cellOf h.blk 1 _ rfl⟩
theorem LParts.at0 (h : LParts w b O e L bp gl v) (k : Nat) (hk : k < 16) : w.cell? ⟨gl, k * 3, none⟩ = some (.bool (e.reg k).isSome) := by
  rw [h.lands.cell (i := k * 3) (by omega)]
  simp only [landF]
  rw [if_pos (by omega), show k * 3 / 3 = k by omega]
theorem LParts.at1 (h : LParts w b O e L bp gl v) (k : Nat) (hk : k < 16) : w.cell? ⟨gl, k * 3 + 1, none⟩ = some (v k) := by
  rw [h.lands.cell (i := k * 3 + 1) (by omega)]
  simp only [landF]
  rw [if_neg (by omega), if_pos (by omega), show (k * 3 + 1) / 3 = k by omega]
theorem LParts.at2 (h : LParts w b O e L bp gl v) (k : Nat) (hk : k < 16) : w.cell? ⟨gl, k * 3 + 2, none⟩ = some (.int .i64 (e.usedAt k)) := by
  rw [h.lands.cell (i := k * 3 + 2) (by omega)]
  simp only [landF]
  rw [if_neg (by omega), if_neg (by omega), show (k * 3 + 2) / 3 = k by omega]
theorem LParts.mono (h : LParts w b O e L bp gl v) (hO : ∀ x, O x → x < w.heap.size → O' x) : LParts w b O' e L bp gl v :=
  ⟨h.blk, h.own, h.lands, h.ownG, h.pool, h.rows, fun x hx => ⟨hO x (h.all x hx).1 (h.all x hx).2, (h.all x hx).2⟩⟩
theorem LParts.step (h : LParts w b O e L bp gl v) (k : Step P P' w w') (hd : ∀ x, O x → ¬ P x) : LParts w' b O e L bp gl v := by
  have hL : ∀ x, L x ≠ 0 → ¬ P x := fun x hx => hd x (h.all x hx).1
  refine ⟨k.keep h.blk (hL b (by rw [h.own]; decide)), h.own, h.lands.of_block (k.block gl h.lands.lt (hL gl (by rw [h.ownG]; decide))), h.ownG, h.pool.step k (fun x hx => hL x (by omega)), fun j hj => (h.rows j hj).step k (fun x hx => hL x (by omega)), ?_⟩
  intro x hx
  have h1 := h.all x hx
  have := k.size
  exact ⟨h1.1, by omega⟩
theorem LandMem.step (h : LandMem w b bp gl O e) (k : Step P P' w w') (hd : ∀ x, O x → ¬ P x) : LandMem w' b bp gl O e := by
  obtain ⟨L, v, h⟩ := h
  exact ⟨L, v, h.step k hd⟩
theorem LandMem.mono (h : LandMem w b bp gl O e) (hO : ∀ x, O x → x < w.heap.size → O' x) : LandMem w b bp gl O' e := by
  obtain ⟨L, v, h⟩ := h
  exact ⟨L, v, h.mono hO⟩
theorem LandMem.refl_grow (h : LandMem w b bp gl O e) : LandMem w b bp gl (grow O w w) e := h.mono grow_self
theorem LParts.drewN (h : LParts w b O e L bp gl v) (n : Nat) : LParts (w.drewN n) b O e L bp gl v := ⟨h.blk, h.own, h.lands, h.ownG, h.pool, h.rows, h.all⟩
theorem LandMem.drewN (h : LandMem w b bp gl O e) (n : Nat) : LandMem (w.drewN n) b bp gl O e := by
  obtain ⟨L, v, h⟩ := h
  exact ⟨L, v, h.drewN n⟩

/-- The pool has turned. -/
theorem LParts.stepPool (h : LParts w b O e L bp gl v) {s' : St} (k1 : PagesAt w' bp O' s') (k2 : Step (fun x => L x = 2) O' w w') :
    LParts w' b (grow O w w') (e.withP s') (relab L 2 w w') bp gl v ∧ Step O (grow O w w') w w' := by
  refine ⟨⟨?_, ?_, ?_, ?_, ?_, ?_, ?_⟩, step_grow h.all (by decide) k2⟩
  · exact k2.keep h.blk (by rw [h.own]; decide)
  · exact (relab_other h.all (by decide) (by decide) b).2 h.own
  · exact h.lands.of_block (k2.block gl h.lands.lt (by rw [h.ownG]; decide))
  · exact (relab_other h.all (by decide) (by decide) gl).2 h.ownG
  · exact k1.mono (fun x hx hl => relab_own h.all k2 x hx hl)
  · intro k hk
    exact ((h.rows k hk).step k2 (fun x h1 h2 => by omega)).mono (fun x hx _ => (relab_other h.all (by omega) (by omega) x).2 hx)
  · exact relab_all h.all (by decide) k2.size

/-- A cell of the regions' row is stored. -/
theorem LParts.setLand (h : LParts w b O e L bp gl v) (i : Nat) (u : Value) {e' : Est} {v' : Nat → Value} (hp : e'.p = e.p) (hf : ∀ j, j < 48 → (if j = i then u else landF e v j) = landF e' v' j)
    (hr : ∀ k, k < 16 → Row w (fun x => L x = k + 4) 3 (v' k) (e'.pagesAt k)) : LParts (w.setCell ⟨gl, i, none⟩ u) b O e' L bp gl v' ∧ Step O O w (w.setCell ⟨gl, i, none⟩ u) := by
  have k2 : Step (fun x => L x = 3) (fun x => L x = 3) w (w.setCell ⟨gl, i, none⟩ u) := (Step.refl _ w).setCell (p := ⟨gl, i, none⟩) h.ownG _
  have hO : O gl := (h.all gl (by rw [h.ownG]; decide)).1
  refine ⟨⟨k2.keep h.blk (by rw [h.own]; decide), h.own, (h.lands.set i u).congr hf, h.ownG, ?_, fun k hk => (hr k hk).step k2 (fun x h1 h2 => by omega), ?_⟩, (Step.refl O w).setCell (p := ⟨gl, i, none⟩) hO _⟩
  · rw [hp]; exact h.pool.step k2 (fun x h1 h2 => by omega)
  · intro x hx
    have := h.all x hx
    simpa using this
end

/-- A whole region is stored. -/
theorem LParts.setWhole {w : World} {b bp gl : Nat} {O : Nat → Prop} {e : Est} {L : Nat → Nat} {v : Nat → Value} (h : LParts w b O e L bp gl v) (k : Nat) (hk : k < 16) (o : Option Reg) (ho : o = none ∨ o = some ⟨[], 0⟩) :
    LParts (((w.setCell ⟨gl, k * 3, none⟩ (.bool o.isSome)).setCell ⟨gl, k * 3 + 1, none⟩ (.slice none 0 0)).setCell ⟨gl, k * 3 + 2, none⟩ (.int .i64 0)) b O (e.set k o) L bp gl (fun j => if j = k then .slice none 0 0 else v j) ∧
    Step O O w (((w.setCell ⟨gl, k * 3, none⟩ (.bool o.isSome)).setCell ⟨gl, k * 3 + 1, none⟩ (.slice none 0 0)).setCell ⟨gl, k * 3 + 2, none⟩ (.int .i64 0)) := by
  have k2 : Step (fun x => L x = 3) (fun x => L x = 3) w (((w.setCell ⟨gl, k * 3, none⟩ (.bool o.isSome)).setCell ⟨gl, k * 3 + 1, none⟩ (.slice none 0 0)).setCell ⟨gl, k * 3 + 2, none⟩ (.int .i64 0)) :=
    (((Step.refl (fun x => L x = 3) w).setCell (p := ⟨gl, k * 3, none⟩) h.ownG _).setCell (p := ⟨gl, k * 3 + 1, none⟩) h.ownG _).setCell (p := ⟨gl, k * 3 + 2, none⟩) h.ownG _
  have hO : O gl := (h.all gl (by rw [h.ownG]; decide)).1
  have hz : (e.set k o).usedAt k = 0 := by unfold Est.usedAt Est.set; rcases ho with rfl | rfl <;> simp
  have hu : ∀ j, j ≠ k → (e.set k o).usedAt j = e.usedAt j := fun j hj => by unfold Est.usedAt Est.set; simp [hj]
  have hg : ∀ j, j ≠ k → (e.set k o).reg j = e.reg j := fun j hj => by unfold Est.set; simp [hj]
  have hgk : (e.set k o).reg k = o := by unfold Est.set; simp
  refine ⟨⟨k2.keep h.blk (by rw [h.own]; decide), h.own, ?_, h.ownG, h.pool.step k2 (fun x h1 h2 => by omega), fun j hj => ?_, ?_⟩, (((Step.refl O w).setCell (p := ⟨gl, k * 3, none⟩) hO _).setCell (p := ⟨gl, k * 3 + 1, none⟩) hO _).setCell (p := ⟨gl, k * 3 + 2, none⟩) hO _⟩
  · refine (((h.lands.set (k * 3) _).set (k * 3 + 1) _).set (k * 3 + 2) _).congr fun i hi => ?_
    simp only [landF]
    by_cases e1 : i / 3 = k
    · have : i = k * 3 ∨ i = k * 3 + 1 ∨ i = k * 3 + 2 := by omega
      rcases this with rfl | rfl | rfl
      · rw [if_neg (by omega), if_neg (by omega), if_pos rfl, if_pos (by omega), e1, hgk]
      · rw [if_neg (by omega), if_pos rfl, if_neg (by omega), if_pos (by omega), e1, if_pos rfl]
      · rw [if_pos rfl, if_neg (by omega), if_neg (by omega), e1, hz]
    · rw [if_neg (by omega), if_neg (by omega), if_neg (by omega), hg _ e1, hu _ e1, if_neg e1]
  · have hp := Est.pagesAt_set e k o j
    by_cases e1 : j = k
    · subst e1
      have : (e.set j o).pagesAt j = [] := by rw [hp, if_pos rfl]; rcases ho with rfl | rfl <;> rfl
      rw [this, if_pos rfl]; exact Row.nil _ _ _
    · rw [hp, if_neg e1, if_neg e1]
      exact (h.rows j hj).step k2 (fun x h1 h2 => by omega)
  · intro x hx
    have := h.all x hx
    simpa using this

/-- The use of a region's last page is stored. -/
theorem LParts.setUsed {w : World} {b bp gl : Nat} {O : Nat → Prop} {e : Est} {L : Nat → Nat} {v : Nat → Value} (h : LParts w b O e L bp gl v) (k : Nat) (hk : k < 16) {r : Reg} (hr : e.reg k = some r) (u : Int) :
    LParts (w.setCell ⟨gl, k * 3 + 2, none⟩ (.int .i64 u)) b O (e.set k (some ⟨r.pages, u⟩)) L bp gl v ∧ Step O O w (w.setCell ⟨gl, k * 3 + 2, none⟩ (.int .i64 u)) := by
  have hu : ∀ j, j ≠ k → (e.set k (some ⟨r.pages, u⟩)).usedAt j = e.usedAt j := fun j hj => by unfold Est.usedAt Est.set; simp [hj]
  have hg : ∀ j, j ≠ k → (e.set k (some ⟨r.pages, u⟩)).reg j = e.reg j := fun j hj => by unfold Est.set; simp [hj]
  have hgk : (e.set k (some ⟨r.pages, u⟩)).reg k = some ⟨r.pages, u⟩ := by unfold Est.set; simp
  have hz : (e.set k (some ⟨r.pages, u⟩)).usedAt k = u := by unfold Est.usedAt; rw [hgk]
  refine h.setLand (k * 3 + 2) _ rfl (fun i hi => ?_) (fun j hj => ?_)
  · simp only [landF]
    by_cases e1 : i / 3 = k
    · have : i = k * 3 ∨ i = k * 3 + 1 ∨ i = k * 3 + 2 := by omega
      rcases this with rfl | rfl | rfl
      · rw [if_neg (by omega), if_pos (by omega), if_pos (by omega), e1, hgk, hr]; rfl
      · rw [if_neg (by omega), if_neg (by omega), if_pos (by omega), if_neg (by omega), if_pos (by omega)]
      · rw [if_pos rfl, if_neg (by omega), if_neg (by omega), e1, hz]
    · rw [if_neg (by omega), hg _ e1, hu _ e1]
  · have hp := Est.pagesAt_set e k (some ⟨r.pages, u⟩) j
    by_cases e1 : j = k
    · subst e1
      rw [hp, if_pos rfl]
      have := h.rows j hj
      rw [Est.at_some hr] at this
      exact this
    · rw [hp, if_neg e1]; exact h.rows j hj

/-- A page was appended to a region's, and the list is stored. -/
theorem land_pushed {w w1 : World} {b bp gl : Nat} {O : Nat → Prop} {e : Est} {L : Nat → Nat} {v : Nat → Value} {k : Nat} {r : Reg} {q : Int} {ga cap : Nat} {o : Obj} (h : LParts w b O e L bp gl v) (hk : k < 16) (hr : e.reg k = some r)
    (h1 : w1.ownsRow 0 3 1 (.slice (some ⟨ga, 0, none⟩) (r.pages.length + 1) cap) (r.pages.length + 1) (r.pages.map (Value.int .i64) ++ [.int .i64 q]))
    (hgrow : (w.alloc o).grownBy w1 (v k).ownBlock) (hat : (v k).ownBlock = some ga ∨ ga = w.heap.size + 1) (hlt : ga < w1.heap.size) :
    w1.cell? ⟨gl, k * 3 + 1, none⟩ = some (v k) ∧ w1.frozen? ⟨gl, k * 3 + 1, none⟩ = false ∧
    ∃ L' v', LParts (w1.setCell ⟨gl, k * 3 + 1, none⟩ (.slice (some ⟨ga, 0, none⟩) (r.pages.length + 1) cap)) b (grow O w (w1.setCell ⟨gl, k * 3 + 1, none⟩ (.slice (some ⟨ga, 0, none⟩) (r.pages.length + 1) cap))) (e.set k (some ⟨r.pages ++ [q], r.used⟩)) L' bp gl v' ∧ v' k = .slice (some ⟨ga, 0, none⟩) (r.pages.length + 1) cap ∧
    Step O (grow O w (w1.setCell ⟨gl, k * 3 + 1, none⟩ (.slice (some ⟨ga, 0, none⟩) (r.pages.length + 1) cap))) w (w1.setCell ⟨gl, k * 3 + 1, none⟩ (.slice (some ⟨ga, 0, none⟩) (r.pages.length + 1) cap)) := by
  have hv := h.rows k hk
  rw [Est.at_some hr] at hv
  have keep : ∀ x, x < w.heap.size → (v k).ownBlock ≠ some x → w1.heap[x]? = w.heap[x]? := fun x hx hne =>
    (hgrow.block x (by simp; omega) (fun e => hne e.symm)).trans (Below.heap_alloc _ _ _ hx)
  have hsz : w.heap.size + 1 ≤ w1.heap.size := by have := hgrow.size; simpa using this
  have k1 : Step (fun x => L x = k + 4) (grow (fun x => L x = k + 4) w w1) w w1 := ⟨hgrow.os, hgrow.tape, hgrow.output, by omega, fun x hx hn => keep x hx (fun e => hn (hv.2 x e)), fun x hx => hx.1⟩
  have gO : ∀ x, L x = k + 4 ∨ w.heap.size ≤ x → x < w1.heap.size → grow (fun x => L x = k + 4) w w1 x := fun x h h' => ⟨h, h'⟩
  have hrow := hv.pushed (o := o) h1 hat hlt (grow (fun x => L x = k + 4) w w1) gO
  have hlands := h.lands.of_block (k1.block gl h.lands.lt (by rw [h.ownG]; omega))
  have c1 : w1.cell? ⟨gl, k * 3 + 1, none⟩ = some (v k) := by
    rw [hlands.cell (i := k * 3 + 1) (by omega)]
    simp only [landF]
    rw [if_neg (by omega), if_pos (by omega), show (k * 3 + 1) / 3 = k by omega]
  refine ⟨c1, hlands.frozen _, ?_⟩
  have hu : ∀ j, (e.set k (some ⟨r.pages ++ [q], r.used⟩)).usedAt j = e.usedAt j := fun j => by
    unfold Est.usedAt Est.set
    by_cases e1 : j = k
    · subst e1; simp [hr]
    · simp [e1]
  have hg : ∀ j, ((e.set k (some ⟨r.pages ++ [q], r.used⟩)).reg j).isSome = (e.reg j).isSome := fun j => by
    unfold Est.set
    by_cases e1 : j = k
    · subst e1; simp [hr]
    · simp [e1]
  -- the world behind the append, the old list still in the row
  have hL' : ∀ x, relab L (k + 4) w w1 x ≠ 0 → grow O w w1 x ∧ x < w1.heap.size := relab_all h.all (by omega) (by omega)
  have kS : Step (fun x => relab L (k + 4) w w1 x = 3) (fun x => relab L (k + 4) w w1 x = 3) w1 (w1.setCell ⟨gl, k * 3 + 1, none⟩ (.slice (some ⟨ga, 0, none⟩) (r.pages.length + 1) cap)) :=
    (Step.refl (fun x => relab L (k + 4) w w1 x = 3) w1).setCell (p := ⟨gl, k * 3 + 1, none⟩) (show relab L (k + 4) w w1 gl = 3 from (relab_other h.all (by omega) (by decide) gl).2 h.ownG) _
  have hgl : grow O w w1 gl := (hL' gl (by rw [(relab_other h.all (by omega) (by decide) gl).2 h.ownG]; decide)).1
  have eg : grow O w (w1.setCell ⟨gl, k * 3 + 1, none⟩ (.slice (some ⟨ga, 0, none⟩) (r.pages.length + 1) cap)) = grow O w w1 := by unfold grow; simp
  rw [eg]
  refine ⟨relab L (k + 4) w w1, fun j => if j = k then .slice (some ⟨ga, 0, none⟩) (r.pages.length + 1) cap else v j, ⟨?_, ?_, ?_, ?_, ?_, ?_, ?_⟩, by simp, (step_grow h.all (by omega) k1).setCell (p := ⟨gl, k * 3 + 1, none⟩) hgl _⟩
  · exact kS.keep (k1.keep h.blk (by rw [h.own]; omega)) (by rw [(relab_other h.all (by omega) (by decide) b).2 h.own]; decide)
  · exact (relab_other h.all (by omega) (by decide) b).2 h.own
  · refine (hlands.set (k * 3 + 1) _).congr fun i hi => ?_
    simp only [landF]
    by_cases e1 : i / 3 = k
    · have : i = k * 3 ∨ i = k * 3 + 1 ∨ i = k * 3 + 2 := by omega
      rcases this with rfl | rfl | rfl
      · rw [if_neg (by omega), if_pos (by omega), if_pos (by omega), hg]
      · rw [if_pos rfl, if_neg (by omega), if_pos (by omega), e1, if_pos rfl]
      · rw [if_neg (by omega), if_neg (by omega), if_neg (by omega), if_neg (by omega), if_neg (by omega), hu]
    · rw [if_neg (by omega), hg, hu, if_neg e1]
  · exact (relab_other h.all (by omega) (by decide) gl).2 h.ownG
  · exact ((h.pool.step k1 (fun x h1 h2 => by omega)).mono (O' := fun x => relab L (k + 4) w w1 x = 2) (fun x hx _ => (relab_other h.all (by omega) (by decide) x).2 hx)).step kS (fun x h1 h2 => by omega)
  · intro j hj
    have hp := Est.pagesAt_set e k (some ⟨r.pages ++ [q], r.used⟩) j
    by_cases e1 : j = k
    · subst e1
      rw [hp, if_pos rfl, if_pos rfl]
      exact (hrow.mono (O' := fun x => relab L (j + 4) w w1 x = j + 4) (fun x hx hl => relab_own h.all k1 x hx hl)).step kS (fun x h1 h2 => by omega)
    · rw [hp, if_neg e1, if_neg e1]
      exact (((h.rows j hj).step k1 (fun x h1 h2 => by omega)).mono (O' := fun x => relab L (k + 4) w w1 x = j + 4) (fun x hx _ => (relab_other h.all (by omega) (by omega) x).2 hx)).step kS (fun x h1 h2 => by omega)
  · intro x hx
    have := hL' x hx
    simpa using this

#print axioms land_pushed
end Go.Proofs.Ytphindejlinleaa
