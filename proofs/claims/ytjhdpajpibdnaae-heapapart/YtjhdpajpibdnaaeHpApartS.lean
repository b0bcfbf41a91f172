/-
  HeapApart: the law's own memory beside the object; what was made is there as it was made.
-/
import Derived.Test.YtjhdpajpibdnaaeHpGone
import Derived.Test.YtjhdpajpibdnaaeHpHB
namespace Go.Proofs.Ytjhdpajpibdnaae
open Go.ChangeShapes Go.WideShapes Go.ChangeAt Go.RowKit
set_option linter.unusedVariables false
set_option linter.unusedSimpArgs false

abbrev aK (V : Nat) (va pa pv : Value) : Nat → Prop := fun x => x = V ∨ va.ownBlock = some x ∨ pa.ownBlock = some x ∨ pv.ownBlock = some x
def PRow (w : World) (sv : Nat → Value) (v : Value) (l : List Nat) : Prop := w.ownsRow 0 62 1 v l.length (l.map sv)
theorem PRow.nil (w : World) (sv : Nat → Value) : PRow w sv (.slice none 0 0) [] := ⟨rfl, .inl ⟨rfl, rfl⟩⟩
theorem PRow.form {w : World} {sv : Nat → Value} {v : Value} {l : List Nat} (h : PRow w sv v l) : ∃ a c, v = .slice a l.length c := by
  rcases h.2 with ⟨e, e0⟩ | ⟨g, cap, cur, e, _⟩
  · exact ⟨none, 0, by rw [e, e0]⟩
  · exact ⟨_, _, e⟩
theorem PRow.cell {w : World} {sv : Nat → Value} {a : Option Addr} {n c : Nat} {l : List Nat} (h : PRow w sv (.slice a n c) l) {i j : Nat} (hj : l[i]? = some j) : ∃ g, a = some ⟨g, 0, none⟩ ∧ w.cell? ⟨g, i, none⟩ = some (sv j) := by
  have hi := (List.getElem?_eq_some_iff.1 hj).1
  rcases h.2 with ⟨e, e0⟩ | ⟨g, cap, cur, e, -, hh, -, -, -, hk⟩
  · omega
  · simp only [Value.slice.injEq] at e
    refine ⟨g, e.1, cellOf hh _ _ ?_⟩
    have : (cur.toList.take (l.length * 1))[i]? = (l.map sv)[i]? := by rw [hk]
    rw [List.getElem?_take, if_pos (by omega), List.getElem?_map, hj] at this
    simpa using this
/-- The law's own memory: the handle's box, the values that were made, the parts that they were made of, the parts of the next one. -/
structure AS (w0 w : World) (b : Nat) (h : HHeap) (sv : Nat → Value) (V : Nat) (v : HVal) (va : Value) (VL : List HVal) (pa : Value) (JL : List Nat) (pv : Value) (lp : List HVal) : Prop where
  hs : HS w0 w b h (aK V va pa pv)
  bv : w.heap[V]? = some (.cells #[.int .i64 v.kind, .int .i64 v.region, .int .i64 v.thing, .int .i64 v.n] 37 (0, 0))
  rv : VRow w va VL
  ra : PRow w sv pa JL
  rp : VRow w pv lp
  d1 : ∀ x, va.ownBlock = some x → x ≠ V ∧ pv.ownBlock ≠ some x
  d3 : ∀ x, pv.ownBlock = some x → x ≠ V
  lo : ∀ x, aK V va pa pv x → w0.heap.size ≤ x
section
variable {w0 w w' : World} {b : Nat} {h h' : HHeap} {sv : Nat → Value} {V : Nat} {v : HVal} {va : Value} {VL : List HVal} {pa : Value} {JL : List Nat} {pv : Value} {lp : List HVal}
theorem AS.lt (g : AS w0 w b h sv V v va VL pa JL pv lp) : ∀ x, aK V va pa pv x → x < w.heap.size := by
  rintro x (rfl | hx | hx | hx)
  · exact lt_of_block g.bv
  · exact g.rv.lt hx
  · obtain ⟨c, hc⟩ := rowBlock g.ra hx; exact lt_of_block hc
  · exact g.rp.lt hx
theorem AS.d2 (g : AS w0 w b h sv V v va VL pa JL pv lp) {x : Nat} (hx : pa.ownBlock = some x) : x ≠ V ∧ va.ownBlock ≠ some x ∧ pv.ownBlock ≠ some x := by
  obtain ⟨c, hc⟩ := rowBlock g.ra hx
  refine ⟨blockNe hc g.bv (by decide), fun e => ?_, fun e => ?_⟩
  · obtain ⟨d, hd⟩ := rowBlock g.rv e; exact blockNe hc hd (by decide) rfl
  · obtain ⟨d, hd⟩ := rowBlock g.rp e; exact blockNe hc hd (by decide) rfl
theorem AS.next (g : AS w0 w b h sv V v va VL pa JL pv lp) (n : HNext w0 w w' b h' (aK V va pa pv)) : AS w0 w' b h' sv V v va VL pa JL pv lp :=
  ⟨n.st, (n.keep V (.inl rfl)).trans g.bv, g.rv.keep (fun x hx => n.keep x (.inr (.inl hx))), rowKeep g.ra (fun x hx => n.keep x (.inr (.inr (.inl hx)))), g.rp.keep (fun x hx => n.keep x (.inr (.inr (.inr hx)))), g.d1, g.d3, g.lo⟩
theorem AS.below (g : AS w0 w b h sv V v va VL pa JL pv lp) (c : Below w.heap.size w w') : AS w0 w' b h sv V v va VL pa JL pv lp := g.next (HNext.same g.hs g.lt c)
theorem AS.alloc (g : AS w0 w b h sv V v va VL pa JL pv lp) (o : Obj) : AS w0 (w.alloc o) b h sv V v va VL pa JL pv lp := g.below (belA w o)
/-- The next one's parts are forgotten. -/
theorem AS.drop (g : AS w0 w b h sv V v va VL pa JL pv lp) : AS w0 w b h sv V v va VL pa JL (.slice none 0 0) [] :=
  ⟨g.hs.mono (fun x hx => by rcases hx with h | h | h | h; exact .inl h; exact .inr (.inl h); exact .inr (.inr (.inl h)); simp [Value.ownBlock] at h), g.bv, g.rv, g.ra, VRow.nil _, fun x hx => ⟨(g.d1 x hx).1, by simp [Value.ownBlock]⟩, fun x hx => by simp [Value.ownBlock] at hx, fun x hx => by rcases hx with h | h | h | h; exact g.lo x (.inl h); exact g.lo x (.inr (.inl h)); exact g.lo x (.inr (.inr (.inl h))); simp [Value.ownBlock] at h⟩
/-- Another handle. -/
theorem AS.setV (g : AS w0 w b h sv V v va VL pa JL pv lp) (x0 x1 x2 x3 : Int) : AS w0 ((((w.setCell ⟨V, 0, none⟩ (.int .i64 x0)).setCell ⟨V, 1, none⟩ (.int .i64 x1)).setCell ⟨V, 2, none⟩ (.int .i64 x2)).setCell ⟨V, 3, none⟩ (.int .i64 x3)) b h sv V ⟨x0, x1, x2, x3⟩ va VL pa JL pv lp := by
  have l0 := g.lo V (.inl rfl)
  have ot : ∀ x, x ≠ V → ((((w.setCell ⟨V, 0, none⟩ (.int .i64 x0)).setCell ⟨V, 1, none⟩ (.int .i64 x1)).setCell ⟨V, 2, none⟩ (.int .i64 x2)).setCell ⟨V, 3, none⟩ (.int .i64 x3)).heap[x]? = w.heap[x]? := fun x hx => st4_other hx x0 x1 x2 x3
  exact ⟨(((g.hs.set (.inl rfl) l0 0 _).set (.inl rfl) l0 1 _).set (.inl rfl) l0 2 _).set (.inl rfl) l0 3 _, st4_blk g.bv x0 x1 x2 x3, g.rv.keep (fun x hx => ot x (g.d1 x hx).1), rowKeep g.ra (fun x hx => ot x (g.d2 hx).1), g.rp.keep (fun x hx => ot x (g.d3 x hx)), g.d1, g.d3, g.lo⟩
theorem AS.pushP (g : AS w0 w b h sv V v va VL pa JL pv lp) {x : HVal} {o : Obj} {w9 : World} {g2 cap2 : Nat} (r1 : w9.ownsRow 0 37 4 (.slice (some ⟨g2, 0, none⟩) (lp.length + 1) cap2) (lp.length + 1) (vflat lp ++ vcells x)) (r2 : (w.alloc o).grownBy w9 pv.ownBlock) (r3 : pv.ownBlock = some g2 ∨ g2 = w.heap.size + 1) :
    AS w0 w9 b h sv V v va VL pa JL (.slice (some ⟨g2, 0, none⟩) (lp.length + 1) cap2) (lp ++ [x]) := by
  have ga := g.alloc o
  have hlt := g.lt
  have hg2 : pv.ownBlock = some g2 ∨ (w.alloc o).heap.size ≤ g2 := r3.imp id (fun e => by simp; omega)
  have keep : ∀ y, y = V ∨ va.ownBlock = some y ∨ pa.ownBlock = some y → w9.heap[y]? = (w.alloc o).heap[y]? := fun y hy => by
    refine r2.block y (ga.lt y (by rcases hy with h | h | h; exact .inl h; exact .inr (.inl h); exact .inr (.inr (.inl h)))) (fun e => ?_)
    rcases hy with h | h | h
    · exact g.d3 y e.symm h
    · exact (g.d1 y h).2 e.symm
    · exact (g.d2 h).2.2 e.symm
  have hs0 := ga.hs.below.size
  refine ⟨ga.hs.grown r2 (fun y e => ⟨.inr (.inr (.inr e)), g.lo y (.inr (.inr (.inr e)))⟩) (fun y hy => ?_), (keep V (.inl rfl)).trans ga.bv, ga.rv.keep (fun y hy => keep y (.inr (.inl hy))), rowKeep ga.ra (fun y hy => keep y (.inr (.inr hy))), ?_, fun y hy => ⟨(g.d1 y hy).1, fun e => ?_⟩, fun y hy => ?_, fun y hy => ?_⟩
  · rcases hy with h | h | h | h
    · exact .inl (.inl h)
    · exact .inl (.inr (.inl h))
    · exact .inl (.inr (.inr (.inl h)))
    · have := ownBlock_slice.1 h
      subst this
      exact hg2.imp (fun e => .inr (.inr (.inr e))) id
  · show w9.ownsRow 0 _ 4 _ (lp ++ [x]).length (vflat (lp ++ [x]))
    rw [vflat_snoc, List.length_append]; exact r1
  · have := ownBlock_slice.1 e
    subst this
    rcases r3 with e' | e'
    · exact (g.d1 _ hy).2 e'
    · have := hlt _ (.inr (.inl hy)); omega
  · have := ownBlock_slice.1 hy
    subst this
    rcases r3 with e' | e'
    · exact g.d3 _ e'
    · have := hlt V (.inl rfl); omega
  · rcases hy with h | h | h | h
    · exact g.lo y (.inl h)
    · exact g.lo y (.inr (.inl h))
    · exact g.lo y (.inr (.inr (.inl h)))
    · have := ownBlock_slice.1 h
      subst this
      rcases hg2 with e | e
      · exact g.lo g2 (.inr (.inr (.inr e)))
      · omega
theorem AS.pushV (g : AS w0 w b h sv V v va VL pa JL (.slice none 0 0) []) {x : HVal} {o : Obj} {w9 : World} {g2 cap2 : Nat} (r1 : w9.ownsRow 0 37 4 (.slice (some ⟨g2, 0, none⟩) (VL.length + 1) cap2) (VL.length + 1) (vflat VL ++ vcells x)) (r2 : (w.alloc o).grownBy w9 va.ownBlock) (r3 : va.ownBlock = some g2 ∨ g2 = w.heap.size + 1) :
    AS w0 w9 b h sv V v (.slice (some ⟨g2, 0, none⟩) (VL.length + 1) cap2) (VL ++ [x]) pa JL (.slice none 0 0) [] := by
  have ga := g.alloc o
  have hlt := g.lt
  have hg2 : va.ownBlock = some g2 ∨ (w.alloc o).heap.size ≤ g2 := r3.imp id (fun e => by simp; omega)
  have keep : ∀ y, y = V ∨ pa.ownBlock = some y → w9.heap[y]? = (w.alloc o).heap[y]? := fun y hy => by
    refine r2.block y (ga.lt y (by rcases hy with h | h; exact .inl h; exact .inr (.inr (.inl h)))) (fun e => ?_)
    rcases hy with h | h
    · exact (g.d1 y e.symm).1 h
    · exact (g.d2 h).2.1 e.symm
  have hs0 := ga.hs.below.size
  refine ⟨ga.hs.grown r2 (fun y e => ⟨.inr (.inl e), g.lo y (.inr (.inl e))⟩) (fun y hy => ?_), (keep V (.inl rfl)).trans ga.bv, ?_, rowKeep ga.ra (fun y hy => keep y (.inr hy)), VRow.nil _, fun y hy => ⟨?_, by simp [Value.ownBlock]⟩, g.d3, fun y hy => ?_⟩
  · rcases hy with h | h | h | h
    · exact .inl (.inl h)
    · have := ownBlock_slice.1 h
      subst this
      exact hg2.imp (fun e => .inr (.inl e)) id
    · exact .inl (.inr (.inr (.inl h)))
    · simp [Value.ownBlock] at h
  · show w9.ownsRow 0 _ 4 _ (VL ++ [x]).length (vflat (VL ++ [x]))
    rw [vflat_snoc, List.length_append]; exact r1
  · have := ownBlock_slice.1 hy
    subst this
    rcases r3 with e' | e'
    · exact (g.d1 _ e').1
    · have := hlt V (.inl rfl); omega
  · rcases hy with h | h | h | h
    · exact g.lo y (.inl h)
    · have := ownBlock_slice.1 h
      subst this
      rcases hg2 with e | e
      · exact g.lo g2 (.inr (.inl e))
      · omega
    · exact g.lo y (.inr (.inr (.inl h)))
    · simp [Value.ownBlock] at h
theorem AS.pushA (g : AS w0 w b h sv V v va VL pa JL (.slice none 0 0) []) {j : Nat} {o : Obj} {w9 : World} {g2 cap2 : Nat} (r1 : w9.ownsRow 0 62 1 (.slice (some ⟨g2, 0, none⟩) (JL.length + 1) cap2) (JL.length + 1) (JL.map sv ++ [sv j])) (r2 : (w.alloc o).grownBy w9 pa.ownBlock) (r3 : pa.ownBlock = some g2 ∨ g2 = w.heap.size + 1) :
    AS w0 w9 b h sv V v va VL (.slice (some ⟨g2, 0, none⟩) (JL.length + 1) cap2) (JL ++ [j]) (.slice none 0 0) [] := by
  have ga := g.alloc o
  have hlt := g.lt
  have hg2 : pa.ownBlock = some g2 ∨ (w.alloc o).heap.size ≤ g2 := r3.imp id (fun e => by simp; omega)
  have keep : ∀ y, y = V ∨ va.ownBlock = some y → w9.heap[y]? = (w.alloc o).heap[y]? := fun y hy => by
    refine r2.block y (ga.lt y (by rcases hy with h | h; exact .inl h; exact .inr (.inl h))) (fun e => ?_)
    rcases hy with h | h
    · exact (g.d2 e.symm).1 h
    · exact (g.d2 e.symm).2.1 h
  have hs0 := ga.hs.below.size
  refine ⟨ga.hs.grown r2 (fun y e => ⟨.inr (.inr (.inl e)), g.lo y (.inr (.inr (.inl e)))⟩) (fun y hy => ?_), (keep V (.inl rfl)).trans ga.bv, ga.rv.keep (fun y hy => keep y (.inr hy)), ?_, VRow.nil _, g.d1, g.d3, fun y hy => ?_⟩
  · rcases hy with h | h | h | h
    · exact .inl (.inl h)
    · exact .inl (.inr (.inl h))
    · have := ownBlock_slice.1 h
      subst this
      exact hg2.imp (fun e => .inr (.inr (.inl e))) id
    · simp [Value.ownBlock] at h
  · show w9.ownsRow 0 _ 1 _ (JL ++ [j]).length ((JL ++ [j]).map sv)
    rw [List.map_append, List.length_append]; exact r1
  · rcases hy with h | h | h | h
    · exact g.lo y (.inl h)
    · exact g.lo y (.inr (.inl h))
    · have := ownBlock_slice.1 h
      subst this
      rcases hg2 with e | e
      · exact g.lo g2 (.inr (.inr (.inl e)))
      · omega
    · simp [Value.ownBlock] at h
end
/-- What was made is there as it was made, each one apart from the others. -/
structure AP (l : List (List Int)) (h : HHeap) (v : HVal) (VL : List HVal) (JL : List Nat) : Prop where
  at_ : ∃ p, h.at v = some p
  ok : v.ok
  len : VL.length = JL.length
  thing : ∀ (i : Nat) (u : HVal), VL[i]? = some u → ∃ (j : Nat) (x : List Int), JL[i]? = some j ∧ l[j]? = some x ∧ h.thing u = some ⟨false, x.map intV⟩ ∧ u.ok
  dist : ∀ (i i' : Nat) (u u' : HVal), VL[i]? = some u → VL[i']? = some u' → u.region = u'.region → u.thing = u'.thing → i = i'
theorem AP.grow {l : List (List Int)} {h h' : HHeap} {v v' : HVal} {VL : List HVal} {JL : List Nat} (a : AP l h v VL JL) (g : HGrows h h') (h1 : ∃ p, h'.at v' = some p) (h2 : v'.ok) : AP l h' v' VL JL :=
  ⟨h1, h2, a.len, fun i u hu => by obtain ⟨j, x, q1, q2, q3, q4⟩ := a.thing i u hu; exact ⟨j, x, q1, q2, g.thing q3, q4⟩, a.dist⟩
theorem AP.push {l : List (List Int)} {h : HHeap} {v : HVal} {VL : List HVal} {JL : List Nat} (a : AP l h v VL JL) {j : Nat} {x : List Int} (hx : l[j]? = some x) (e : (h.tuple v (x.map intV)).2.1 = 0) (hb : ∀ p, h.at v = some p → p.l.length ≤ 1000000) :
    AP l (h.tuple v (x.map intV)).2.2 v (VL ++ [(h.tuple v (x.map intV)).1]) (JL ++ [j]) := by
  obtain ⟨p, hp⟩ := a.at_
  obtain ⟨n1, n2, n3⟩ := HHeap.put_new (t := ⟨false, x.map intV⟩) hp e
  have a' := a.grow (HGrows.tuple h v (x.map intV)) ((HGrows.tuple h v (x.map intV)).at hp) a.ok
  have ok1 : (h.tuple v (x.map intV)).1.ok := by
    show ((h.put v ⟨false, x.map intV⟩ _).1).ok
    rw [n1]
    have := hb p hp
    refine ⟨⟨by show (-9223372036854775808 : Int) ≤ 3; decide, by show (3 : Int) ≤ 9223372036854775807; decide⟩, a.ok.2.1, ⟨by show (-9223372036854775808 : Int) ≤ (p.l.length : Int); omega, by show (p.l.length : Int) ≤ 9223372036854775807; omega⟩, ⟨by show (-9223372036854775808 : Int) ≤ 0; decide, by show (0 : Int) ≤ 9223372036854775807; decide⟩⟩
  refine ⟨a'.at_, a.ok, by simp [a.len], fun i u hu => ?_, fun i i' u u' hu hu' hr ht => ?_⟩
  · rcases Nat.lt_or_ge i VL.length with h1 | h1
    · rw [List.getElem?_append_left h1] at hu
      obtain ⟨j', x', q1, q2, q3, q4⟩ := a'.thing i u hu
      exact ⟨j', x', by rw [List.getElem?_append_left (by rw [← a.len]; exact h1)]; exact q1, q2, q3, q4⟩
    · rw [List.getElem?_append_right h1] at hu
      have := (List.getElem?_eq_some_iff.1 hu).1
      have h0 : i - VL.length = 0 := by simp at this; omega
      rw [h0] at hu; simp at hu; subst hu
      refine ⟨j, x, ?_, hx, n2, ok1⟩
      rw [List.getElem?_append_right (by rw [← a.len]; exact h1), ← a.len, h0]; rfl
  · have new : ∀ u, u ∈ VL → ¬ (u.region = (h.tuple v (x.map intV)).1.region ∧ u.thing = (h.tuple v (x.map intV)).1.thing) := fun u hu hc => by
      obtain ⟨k, hk⟩ := List.getElem?_of_mem hu
      obtain ⟨j', x', q1, q2, q3, q4⟩ := a.thing k u hk
      have e1 : (h.tuple v (x.map intV)).1 = _ := n1
      rw [e1] at hc
      exact n3 u _ q3 hc
    rcases Nat.lt_or_ge i VL.length with h1 | h1 <;> rcases Nat.lt_or_ge i' VL.length with h2 | h2
    · rw [List.getElem?_append_left h1] at hu
      rw [List.getElem?_append_left h2] at hu'
      exact a.dist i i' u u' hu hu' hr ht
    · rw [List.getElem?_append_left h1] at hu
      rw [List.getElem?_append_right h2] at hu'
      have := (List.getElem?_eq_some_iff.1 hu').1
      have h0 : i' - VL.length = 0 := by simp at this; omega
      rw [h0] at hu'; simp at hu'; subst hu'
      exact absurd ⟨hr, ht⟩ (new u (List.mem_of_getElem? hu))
    · rw [List.getElem?_append_right h1] at hu
      rw [List.getElem?_append_left h2] at hu'
      have := (List.getElem?_eq_some_iff.1 hu).1
      have h0 : i - VL.length = 0 := by simp at this; omega
      rw [h0] at hu; simp at hu; subst hu
      exact absurd ⟨hr.symm, ht.symm⟩ (new u' (List.mem_of_getElem? hu'))
    · have t1 := (List.getElem?_eq_some_iff.1 hu).1
      have t2 := (List.getElem?_eq_some_iff.1 hu').1
      simp at t1 t2
      omega
/-- What is to be found behind the change of one part. -/
def wantN (hit : Bool) (n z : Int) : Int := if hit then n else z
structure AW (l : List (List Int)) (h : HHeap) (VL : List HVal) (JL : List Nat) (k : Nat) (c : Int) (n : Int) : Prop where
  thing : ∀ (i : Nat) (u : HVal), VL[i]? = some u → ∃ (j : Nat) (x y : List Int), JL[i]? = some j ∧ l[j]? = some x ∧ u.ok ∧ h.thing u = some ⟨false, y.map intV⟩ ∧ y.length = x.length ∧ ∀ (p : Nat) (z : Int), x[p]? = some z → y[p]? = some (wantN (decide (i = k) && decide ((p : Int) = c)) n z)
theorem AP.none {l : List (List Int)} {h : HHeap} {v : HVal} {VL : List HVal} {JL : List Nat} (a : AP l h v VL JL) (k : Nat) (n : Int) : AW l h VL JL k (-1) n :=
  ⟨fun i u hu => by
    obtain ⟨j, x, q1, q2, q3, q4⟩ := a.thing i u hu
    refine ⟨j, x, x, q1, q2, q4, q3, rfl, fun p z hz => ?_⟩
    rw [decide_eq_false (show ¬ (p : Int) = -1 by omega), Bool.and_false]
    exact hz⟩
theorem AP.set {l : List (List Int)} {h : HHeap} {v : HVal} {VL : List HVal} {JL : List Nat} (a : AP l h v VL JL) {k c : Nat} {u : HVal} {x : List Int} {j : Nat} (hu : VL[k]? = some u) (hj : JL[k]? = some j) (hx : l[j]? = some x) (hc : c < x.length) (n : Int) :
    (h.set u (c : Int) (intV n)).1 = 0 ∧ AW l (h.set u (c : Int) (intV n)).2 VL JL k (c : Int) n := by
  obtain ⟨j', x', e1, e2, e3, e4⟩ := a.thing k u hu
  rw [hj] at e1; cases e1
  rw [hx] at e2; cases e2
  obtain ⟨r1, r2⟩ := HHeap.set_ok (x := intV n) (k := c) e3 (fun e => by cases e) (by simpa using hc)
  refine ⟨r1, ⟨fun i u' hu' => ?_⟩⟩
  obtain ⟨j2, x2, q1, q2, q3, q4⟩ := a.thing i u' hu'
  have r3 := r2 u' _ q3
  by_cases hik : i = k
  · subst hik
    rw [hu] at hu'; cases hu'
    rw [hj] at q1; cases q1
    rw [hx] at q2; cases q2
    rw [if_pos ⟨rfl, rfl⟩] at r3
    refine ⟨j, x, x.set c n, hj, hx, q4, ?_, by simp, fun p z hz => ?_⟩
    · rw [r3]; simp [List.map_set]
    · by_cases hp : p = c
      · subst hp
        simp [hc, wantN]
      · rw [List.getElem?_set_ne (Ne.symm hp), hz, decide_eq_false (show ¬ (p : Int) = (c : Int) by omega), Bool.and_false]; rfl
  · rw [if_neg (fun e => hik (a.dist i k u' u hu' hu e.1 e.2))] at r3
    refine ⟨j2, x2, x2, q1, q2, q4, r3, rfl, fun p z hz => ?_⟩
    rw [decide_eq_false hik, Bool.false_and]; exact hz
theorem AW.len {l : List (List Int)} {h : HHeap} {u : HVal} {y : List Int} (e : h.thing u = some ⟨false, y.map intV⟩) : h.len u = ((y.length : Int), 0) := by unfold HHeap.len; rw [e]; simp
theorem AW.get {h : HHeap} {u : HVal} {y : List Int} (e : h.thing u = some ⟨false, y.map intV⟩) {p : Nat} {z : Int} (hz : y[p]? = some z) : h.get u (p : Int) = (intV z, 0) := by
  unfold HHeap.get; rw [e]; simp only; rw [if_neg (by omega), Int.toNat_natCast, List.getElem?_map, hz]; rfl
/-- What came in: lists of numbers. -/
def svOf (w : World) (a : Option Addr) (j : Nat) : Value := match a with
  | some ad => (w.cell? ⟨ad.block, ad.off + j, none⟩).getD undef
  | none => undef
theorem rows_in {w : World} {O : Nat → Prop} {l : List (List Int)} {a : Option Addr} {n c : Nat} (h : Lay.int.list.list.In w O l [.slice a n c]) {j : Nat} {x : List Int} (hx : l[j]? = some x) :
    ∃ g o aj cj, a = some ⟨g, o, none⟩ ∧ g < w.heap.size ∧ w.cell? ⟨g, o + j, none⟩ = some (svOf w a j) ∧ svOf w a j = .slice aj x.length cj ∧ ∀ (i : Nat) (y : Int), x[i]? = some y → ∃ g' o', aj = some ⟨g', o', none⟩ ∧ g' < w.heap.size ∧ w.cell? ⟨g', o' + i, none⟩ = some (.int .i64 y) := by
  obtain ⟨g, o, ds, e, -, hlt, hc, hi⟩ := Lay.list_at h hx
  have h0 := hc 0 (by decide)
  obtain ⟨aj, cj, e1, hl⟩ := hi
  rw [e1] at h0
  have h0' : w.cell? ⟨g, o + j, none⟩ = some (.slice aj x.length cj) := by simpa [Lay.list] using h0
  have hs : svOf w a j = .slice aj x.length cj := by rw [e]; unfold svOf; simp only; rw [h0']; rfl
  refine ⟨g, o, aj, cj, e, hlt, by rw [hs]; exact h0', hs, fun i y hy => ?_⟩
  obtain ⟨g', o', ds', e', -, hlt', hc', hi'⟩ := hl i y hy
  have := hc' 0 (by decide)
  rw [hi'.1] at this
  exact ⟨g', o', e', hlt', by simpa [Lay.int] using this⟩
end Go.Proofs.Ytjhdpajpibdnaae
