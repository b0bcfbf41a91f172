/-
  Package heap in memory: what turns where a region or the whole is changed. No function of the program is spoken of.
-/
import Derived.Test.YtjhdpajpibdnaaeHpMem
namespace Go.Proofs.Ytjhdpajpibdnaae
open Go.ChangeShapes Go.WideShapes Go.ChangeAt Go.RowKit
set_option linter.unusedVariables false
set_option linter.unusedSimpArgs false

section
variable {w w' : World} {b k : Nat} {p : HPlace} {S S' : Nat → Prop} {tv : Value} {pv : Nat → Value}
theorem RegIn.rowNe (h : RegIn w b k p S tv pv) {x : Nat} (hx : tv.ownBlock = some x) : x ≠ b := by
  obtain ⟨c, hc⟩ := rowBlock h.row hx
  exact blockNe hc h.box (by decide)
theorem RegIn.partNe (h : RegIn w b k p S tv pv) {i : Nat} {t : HThing} (ht : p.l[i]? = some t) {x : Nat} (hx : pblk (pv i) t x) : x ≠ b := by
  obtain ⟨c, hc⟩ := (h.part i t ht).type hx
  exact blockNe hc h.box (by decide)
theorem RegIn.partRow (h : RegIn w b k p S tv pv) {i : Nat} {t : HThing} (ht : p.l[i]? = some t) {x : Nat} (hx : pblk (pv i) t x) : tv.ownBlock ≠ some x := by
  intro e
  obtain ⟨c, hc⟩ := (h.part i t ht).type hx
  obtain ⟨d, hd⟩ := rowBlock h.row e
  exact blockNe hc hd (by decide) rfl
/-- Its numbers are others now. -/
theorem RegIn.nums (h : RegIn w b k p S tv pv) (p' : HPlace) (hl : p'.l = p.l) (hb : w'.heap[b]? = some (.cells #[.int .i64 k, .int .i64 p'.pages, .int .i64 p'.used, tv] 72 (0, 0))) (ho : ∀ x, S x → x ≠ b → x < w.heap.size → w'.heap[x]? = w.heap[x]?) : RegIn w' b k p' S tv pv :=
  ⟨hb, by rw [hl]; exact rowKeep h.row (fun x hx => ho x (h.ot x hx) (h.rowNe hx) (lt_of_block (rowBlock h.row hx).choose_spec)),
   by rw [hl]; exact fun i t ht => (h.part i t ht).keep (fun x hx => ho x (h.op i t x ht hx) (h.partNe ht hx) ((h.part i t ht).lt hx)), by rw [hl]; exact h.inj, h.ob, h.ot, by rw [hl]; exact h.op⟩
theorem ownBlock_slice {g n c : Nat} {x : Nat} : (Value.slice (some ⟨g, 0, none⟩) n c).ownBlock = some x ↔ g = x := by simp [Value.ownBlock]
/-- A thing more. -/
theorem RegIn.add (h : RegIn w b k p S tv pv) {t : HThing} {v : Value} (hv : PartsAt w v t.l) (hn : ∀ x, pblk v t x → ¬ S x) {w1 : World} {g c : Nat}
    (r1 : w1.ownsRow 0 94 2 (.slice (some ⟨g, 0, none⟩) (p.l.length + 1) c) (p.l.length + 1) (tflat pv p.l 0 ++ [.int .i64 t.knd, v])) (r2 : w.grownBy w1 tv.ownBlock) (r3 : tv.ownBlock = some g ∨ w.heap.size ≤ g) :
    RegIn (w1.setCell ⟨b, 3, none⟩ (.slice (some ⟨g, 0, none⟩) (p.l.length + 1) c)) b k { p with l := p.l ++ [t] } (fun x => S x ∨ x = g ∨ pblk v t x) (.slice (some ⟨g, 0, none⟩) (p.l.length + 1) c) (fun i => if i = p.l.length then v else pv i) := by
  have hbl := lt_of_block h.box
  have hb1 : w1.heap[b]? = some (.cells #[.int .i64 k, .int .i64 p.pages, .int .i64 p.used, tv] 72 (0, 0)) := (r2.block b hbl (fun e => h.rowNe e.symm rfl)).trans h.box
  have hgb : g ≠ b := by
    rcases r3 with e | e
    · exact h.rowNe e
    · omega
  have other : ∀ x, x ≠ b → (w1.setCell ⟨b, 3, none⟩ (.slice (some ⟨g, 0, none⟩) (p.l.length + 1) c)).heap[x]? = w1.heap[x]? := fun x hx => Below.heap_setCell _ _ _ _ hx
  have old : ∀ i u, p.l[i]? = some u → (if i = p.l.length then v else pv i) = pv i := fun i u hu => if_neg (by have := (List.getElem?_eq_some_iff.1 hu).1; omega)
  have ex : ∀ i u, (p.l ++ [t])[i]? = some u → (p.l[i]? = some u ∧ (if i = p.l.length then v else pv i) = pv i) ∨ (i = p.l.length ∧ u = t) := by
    intro i u hu
    rcases Nat.lt_or_ge i p.l.length with h1 | h1
    · rw [List.getElem?_append_left h1] at hu; exact .inl ⟨hu, old i u hu⟩
    · rw [List.getElem?_append_right h1] at hu
      have hlt := (List.getElem?_eq_some_iff.1 hu).1
      have : i - p.l.length = 0 := by simp at hlt; omega
      rw [this] at hu; simp at hu
      exact .inr ⟨by omega, hu.symm⟩
  have vb : ∀ x, pblk v t x → x ≠ b ∧ some x ≠ tv.ownBlock := fun x hx => ⟨fun e => hn x hx (e ▸ h.ob), fun e => hn x hx (h.ot x e.symm)⟩
  refine ⟨?_, ?_, ?_, ?_, .inl h.ob, fun x hx => .inr (.inl (ownBlock_slice.1 hx).symm), ?_⟩
  · have := blockSet hb1 3 (.slice (some ⟨g, 0, none⟩) (p.l.length + 1) c)
    simpa using this
  · have e : tflat (fun i => if i = p.l.length then v else pv i) (p.l ++ [t]) 0 = tflat pv p.l 0 ++ [.int .i64 t.knd, v] := by
      rw [tflat_snoc, tflat_congr (qv := pv) p.l 0 (fun i hi => if_neg (by omega))]
      simp
    rw [e]
    have := rowKeep (w' := w1.setCell ⟨b, 3, none⟩ (.slice (some ⟨g, 0, none⟩) (p.l.length + 1) c)) r1 (fun x hx => other x (by rw [ownBlock_slice] at hx; omega))
    simpa using this
  · intro i u hu
    rcases ex i u hu with ⟨h1, h2⟩ | ⟨h1, h2⟩
    · rw [h2]
      refine (h.part i u h1).keep (fun x hx => (other x (h.partNe h1 hx)).trans (r2.block x ((h.part i u h1).lt hx) (fun e => h.partRow h1 hx e.symm)))
    · subst h2; rw [if_pos h1]
      exact hv.keep (fun x hx => (other x (vb x hx).1).trans (r2.block x (hv.lt hx) (vb x hx).2))
  · intro i j u u' x hu hu' hx hx'
    rcases ex i u hu with ⟨h1, h2⟩ | ⟨h1, h2⟩ <;> rcases ex j u' hu' with ⟨h3, h4⟩ | ⟨h3, h4⟩
    · rw [h2] at hx; rw [h4] at hx'; exact h.inj i j u u' x h1 h3 hx hx'
    · rw [h2] at hx; rw [if_pos h3, h4] at hx'; exact absurd (h.op i u x h1 hx) (hn x hx')
    · rw [h4] at hx'; rw [if_pos h1, h2] at hx; exact absurd (h.op j u' x h3 hx') (hn x hx)
    · omega
  · intro i u x hu hx
    rcases ex i u hu with ⟨h1, h2⟩ | ⟨h1, h2⟩
    · rw [h2] at hx; exact .inl (h.op i u x h1 hx)
    · rw [if_pos h1, h2] at hx; exact .inr (.inr hx)
/-- One part of one thing is another one now. -/
theorem RegIn.put (h : RegIn w b k p S tv pv) {i : Nat} {t : HThing} (ht : p.l[i]? = some t) {g : Nat} (hg : pblk (pv i) t g) {l : List HVal} (hl : l.length = t.l.length) (hr : w'.rowIs g 37 (l.length * 4) (vCell l)) (ho : ∀ x, S x → x ≠ g → x < w.heap.size → w'.heap[x]? = w.heap[x]?) :
    RegIn w' b k { p with l := p.l.set i { t with l := l } } S tv pv := by
  have hi := (List.getElem?_eq_some_iff.1 ht).1
  have ex : ∀ j u, (p.l.set i { t with l := l })[j]? = some u → (j ≠ i ∧ p.l[j]? = some u) ∨ (j = i ∧ u = { t with l := l }) := by
    intro j u hu
    by_cases e : j = i
    · subst e; simp [hi] at hu; exact .inr ⟨rfl, hu.symm⟩
    · rw [List.getElem?_set_ne (Ne.symm e)] at hu; exact .inl ⟨e, hu⟩
  have ne : t.l ≠ [] := hg.1
  have ne' : l ≠ [] := fun e => ne (List.length_eq_zero_iff.1 (by rw [← hl, e]; rfl))
  have pb : ∀ x, pblk (pv i) { t with l := l } x → pblk (pv i) t x := fun x hx => ⟨ne, hx.2⟩
  refine ⟨(ho b h.ob (Ne.symm (h.partNe ht hg)) (lt_of_block h.box)).trans h.box, ?_, ?_, ?_, h.ob, h.ot, ?_⟩
  · show w'.ownsRow 0 _ 2 tv (p.l.set i _).length (tflat pv (p.l.set i _) 0)
    rw [tflat_set pv t { t with l := l } rfl p.l 0 i ht, List.length_set]
    exact rowKeep h.row (fun x hx => ho x (h.ot x hx) (fun e => h.partRow ht hg (e ▸ hx)) (lt_of_block (rowBlock h.row hx).choose_spec))
  · intro j u hu
    rcases ex j u hu with ⟨h1, h2⟩ | ⟨rfl, rfl⟩
    · exact (h.part j u h2).keep (fun x hx => ho x (h.op j u x h2 hx) (fun e => h1 (h.inj j i u t x h2 ht hx (e ▸ hg))) ((h.part j u h2).lt hx))
    · obtain ⟨⟨a, c, e⟩, -⟩ := h.part j t ht
      refine ⟨⟨a, c, by rw [e, hl]⟩, fun _ => ?_⟩
      obtain ⟨g', c', e', -⟩ := (h.part j t ht).2 ne
      have : g' = g := by have := hg.2; rw [e'] at this; exact ownBlock_slice.1 this
      subst this
      exact ⟨g', c', by rw [e', hl], hr⟩
  · intro j j' u u' x hu hu' hx hx'
    rcases ex j u hu with ⟨h1, h2⟩ | ⟨rfl, rfl⟩ <;> rcases ex j' u' hu' with ⟨h3, h4⟩ | ⟨rfl, rfl⟩
    · exact h.inj j j' u u' x h2 h4 hx hx'
    · exact h.inj j _ u t x h2 ht hx (pb x hx')
    · exact h.inj _ j' t u' x ht h4 (pb x hx) hx'
    · rfl
  · intro j u x hu hx
    rcases ex j u hu with ⟨h1, h2⟩ | ⟨rfl, rfl⟩
    · exact h.op j u x h2 hx
    · exact h.op j t x ht (pb x hx)
end

section
variable {w w' : World} {b : Nat} {O O' : Nat → Prop} {h : HHeap} {G : HG}
/-- One region is changed. -/
theorem HIn.regTo (H : HIn w b O h G) {k : Nat} {p p' : HPlace} (hp : h.L[k]? = some p) (ht : p.there = true) (ht' : p'.there = true) {S' : Nat → Prop} (hr : RegAt w' (G.g k) k p' S') (hlt : ∀ x, S' x → x < w'.heap.size) (hs : Step (G.S k) S' w w') :
    HIn w' b (fun x => O x ∨ S' x) { h with L := h.L.set k p' } { G with S := fun j => if j = k then S' else G.S j } := by
  have hk := (List.getElem?_eq_some_iff.1 hp).1
  have new : ∀ x, S' x → G.S k x ∨ w.heap.size ≤ x := hs.own
  have stay : ∀ x, ¬ G.S k x → x < w.heap.size → w'.heap[x]? = w.heap[x]? := fun x h1 h2 => hs.block x h2 h1
  have pl : ∀ j : Int, (HHeap.place { h with L := h.L.set k p' } j).isSome = (h.place j).isSome := by
    intro j
    rw [HHeap.place_set hk]
    by_cases e : j = k
    · subst e; rw [if_pos rfl, if_pos ht', HHeap.place_of hp ht]; rfl
    · rw [if_neg e]
  refine ⟨?_, ownsMap_keep H.map (stay _ (fun e => (H.os k _ e).2.2 rfl) H.map.lt), ?_, ?_, ?_, ?_, ?_, .inl H.ob, .inl H.om, ?_, ?_⟩
  · rw [stay b (fun e => (H.os k _ e).2.1 rfl) (lt_of_block H.top), H.top]; simp
  · have := HHeap.live_set (h := h) (q := p') hp h.left
    rw [ht, ht'] at this
    rw [H.size]
    simpa using this.symm
  · intro j hj; rw [H.has j hj, pl j]
  · intro j q hj hq
    have : (h.place j).isSome = true := by rw [← pl j, hq]; rfl
    obtain ⟨q', hq'⟩ := Option.isSome_iff_exists.1 this
    exact H.at_ j q' hj hq'
  · intro j q hj hq
    by_cases e : j = k
    · subst e
      have : q = p' := by simpa [hk] using hj.symm
      subst this
      simpa using hr
    · simp only [e, if_false]
      have hj' : h.L[j]? = some q := by simpa [List.getElem?_set_ne (Ne.symm e)] using hj
      exact (H.reg j q hj' hq).keep (fun x hx hl => stay x (fun hx' => e (H.dis j k x hx hx')) hl)
  · intro i j x hi hj
    by_cases ei : i = k <;> by_cases ej : j = k
    · rw [ei, ej]
    · simp only [ei, if_pos, ej, if_false] at hi hj
      rcases new x hi with h1 | h1
      · exact absurd (H.dis k j x h1 hj).symm ej
      · have := H.lt x (H.os j x hj).1; omega
    · simp only [ei, if_pos, ej, if_false] at hi hj
      rcases new x hj with h1 | h1
      · exact absurd (H.dis i k x hi h1) ei
      · have := H.lt x (H.os i x hi).1; omega
    · simp only [ei, ej, if_false] at hi hj
      exact H.dis i j x hi hj
  · intro j x hj
    by_cases e : j = k
    · simp only [e, if_pos] at hj
      rcases new x hj with h1 | h1
      · exact ⟨.inl (H.os k x h1).1, (H.os k x h1).2⟩
      · have h2 := lt_of_block H.top
        have h3 := H.map.lt
        exact ⟨.inr hj, by omega, by show x ≠ G.bm; omega⟩
    · simp only [e, if_false] at hj
      exact ⟨.inl (H.os j x hj).1, (H.os j x hj).2⟩
  · rintro x (hx | hx)
    · exact Nat.lt_of_lt_of_le (H.lt x hx) hs.size
    · exact hlt x hx
/-- So many pages are left now. -/
theorem HIn.toLeft (H : HIn w b O h G) (n : Nat) : HIn (w.setCell ⟨b, 0, none⟩ (.int .i64 n)) b O { h with left := n } G := by
  have ot : ∀ x, x ≠ b → (w.setCell ⟨b, 0, none⟩ (.int .i64 n)).heap[x]? = w.heap[x]? := fun x hx => Below.heap_setCell _ _ _ _ hx
  refine ⟨?_, ownsMap_keep H.map (ot _ (Ne.symm H.bne)), H.size, H.has, H.at_, fun k p h1 h2 => (H.reg k p h1 h2).keep (fun x hx _ => ot x (H.os k x hx).2.1), H.dis, H.ob, H.om, H.os, fun x hx => by simpa using H.lt x hx⟩
  have := blockSet H.top 0 (.int .i64 n)
  simpa using this
/-- A region goes. -/
theorem HIn.gone (H : HIn w b O h G) {k : Nat} {p : HPlace} (hp : h.L[k]? = some p) (ht : p.there = true) (hk64 : is64 k) {w1 : World} {n : Nat} (m1 : w1.ownsMap Try.prog 3 pelem G.bm n (G.D.del (kInt k))) (m2 : w.mapTurned w1 G.bm) :
    HIn w1 b O { h with L := h.L.set k noP } { G with D := G.D.del (kInt k), S := fun j x => j ≠ k ∧ G.S j x } := by
  have hk := (List.getElem?_eq_some_iff.1 hp).1
  have gr := m2.grown
  have stay : ∀ x, x ≠ G.bm → x < w.heap.size → w1.heap[x]? = w.heap[x]? := fun x h1 h2 => gr.block x h2 (fun e => h1 (by simpa using e))
  have ne : ∀ j : Int, j ≠ k → kInt j ≠ kInt (k : Int) := fun j hj e => hj (by cases e; rfl)
  refine ⟨?_, ownsMap_tight m1, ?_, ?_, ?_, ?_, fun i j x hi hj => H.dis i j x hi.2 hj.2, H.ob, H.om, fun j x hj => H.os j x hj.2, fun x hx => Nat.lt_of_lt_of_le (H.lt x hx) gr.size⟩
  · rw [stay b H.bne (lt_of_block H.top), H.top]; simp
  · have h1 := Maps.size_del (k := kInt (k : Int)) (H.map.tidy hKeyed)
    have h2 := HHeap.live_set (h := h) (q := noP) hp h.left
    rw [H.has k hk64, HHeap.place_of hp ht, H.size] at h1
    rw [ht] at h2
    simp [noP] at h1 h2 ⊢
    omega
  · intro j hj
    rw [HHeap.place_set hk]
    by_cases e : j = k
    · subst e; rw [Maps.has_del_same, if_pos rfl]; rfl
    · rw [if_neg e, Maps.has_del_other (ne j e), H.has j hj]
  · intro j q hj hq
    rw [HHeap.place_set hk] at hq
    by_cases e : j = k
    · subst e; simp [noP] at hq
    · rw [if_neg e] at hq
      rw [Maps.atKey_del_other (ne j e)]; exact H.at_ j q hj hq
  · intro j q hj hq
    by_cases e : j = k
    · subst e
      have : q = noP := by simpa [hk] using hj.symm
      subst this; cases hq
    · have hj' : h.L[j]? = some q := by simpa [List.getElem?_set_ne (Ne.symm e)] using hj
      have R := (H.reg j q hj' hq).keep (w' := w1) (fun x hx hl => stay x (H.os j x hx).2.2 hl)
      obtain ⟨tv, pv, r⟩ := R
      exact ⟨tv, pv, r.box, r.row, r.part, r.inj, ⟨e, r.ob⟩, fun x hx => ⟨e, r.ot x hx⟩, fun i t x hi hx => ⟨e, r.op i t x hi hx⟩⟩
/-- A region more. -/
theorem HIn.more (H : HIn w b O h G) (h64 : is64 h.L.length) {w1 : World} {n g : Nat} (hg : w.heap.size ≤ g) (hb1 : w1.heap[g]? = some (.cells #[.int .i64 h.L.length, .int .i64 0, .int .i64 0, .slice none 0 0] 72 (0, 0)))
    (m1 : w1.ownsMap Try.prog 3 pelem G.bm n (G.D.put (kInt h.L.length) (.lit (.int .i64 (g : Int))))) (st : ∀ x, x < w.heap.size → x ≠ G.bm → w1.heap[x]? = w.heap[x]?) (hs : w.heap.size ≤ w1.heap.size) :
    HIn (w1.setCell ⟨b, 1, none⟩ (.int .i64 (h.L.length + 1 : Nat))) b (fun x => O x ∨ x = g) { h with L := h.L ++ [newP] } { G with D := G.D.put (kInt h.L.length) (.lit (.int .i64 (g : Int))), g := fun j => if j = h.L.length then g else G.g j, S := fun j x => if j = h.L.length then x = g else j < h.L.length ∧ G.S j x } := by
  have ot : ∀ x, x ≠ b → (w1.setCell ⟨b, 1, none⟩ (.int .i64 (h.L.length + 1 : Nat))).heap[x]? = w1.heap[x]? := fun x hx => Below.heap_setCell _ _ _ _ hx
  have hbl := lt_of_block H.top
  have hml := H.map.lt
  have none_ : h.place h.L.length = none := by rw [HHeap.place_nat]; simp
  have ne : ∀ j : Int, j ≠ h.L.length → kInt j ≠ kInt (h.L.length : Int) := fun j hj e => hj (by cases e; rfl)
  have key : WideAt.IsKeyLit (kInt (h.L.length : Int)) := hKeyed.key (Maps.keyOf_int_mk Try.underlying3 (wf64 h64))
  refine ⟨?_, ownsMap_tight (ownsMap_keep m1 (ot _ (Ne.symm H.bne))), ?_, ?_, ?_, ?_, ?_, .inl H.ob, .inl H.om, ?_, ?_⟩
  · have h1 : w1.heap[b]? = _ := (st b hbl H.bne).trans H.top
    have := blockSet h1 1 (.int .i64 (h.L.length + 1 : Nat))
    simpa using this
  · have h1 := Maps.size_put (k := kInt (h.L.length : Int)) (H.map.tidy hKeyed) (.lit (.int .i64 (g : Int)))
    rw [H.has _ h64, none_, H.size] at h1
    show Maps.size (G.D.put (kInt (h.L.length : Int)) (.lit (.int .i64 (g : Int)))) = _
    rw [h1, HHeap.live_push]
    rfl
  · intro j hj
    rw [HHeap.place_push]
    by_cases e : j = h.L.length
    · subst e; rw [Maps.has_put_same H.map.isMap key, if_pos rfl]; rfl
    · rw [if_neg e, Maps.has_put_other (ne j e), H.has j hj]
  · intro j q hj hq
    rw [HHeap.place_push] at hq
    by_cases e : j = h.L.length
    · subst e
      show (G.D.put _ _).atKey _ _ = _
      rw [Maps.atKey_put_same H.map.isMap key]; simp
    · rw [if_neg e] at hq
      show (G.D.put _ _).atKey _ _ = _
      have h0 := (HHeap.place_some hq).1
      have e' : ¬ j.toNat = h.L.length := by omega
      rw [Maps.atKey_put_other (ne j e), H.at_ j q hj hq]
      simp only [e', if_false]
  · intro j q hj hq
    by_cases e : j = h.L.length
    · subst e
      have : q = newP := by simpa using hj.symm
      subst this
      simp only [if_pos]
      refine ⟨.slice none 0 0, fun _ => .slice none 0 0, ?_, ⟨rfl, .inl ⟨rfl, rfl⟩⟩, fun i t ht => by simp [newP] at ht, fun i j t u x hi => by simp [newP] at hi, rfl, fun x hx => by simp [Value.ownBlock] at hx, fun i t x hi => by simp [newP] at hi⟩
      rw [ot g (by omega)]; exact hb1
    · have hjl : j < h.L.length := by have := (List.getElem?_eq_some_iff.1 hj).1; simp at this; omega
      rw [List.getElem?_append_left hjl] at hj
      simp only [e, if_false]
      have R := (H.reg j q hj hq).keep (w' := w1.setCell ⟨b, 1, none⟩ (.int .i64 (h.L.length + 1 : Nat))) (fun x hx hl => (ot x (H.os j x hx).2.1).trans (st x hl (H.os j x hx).2.2))
      obtain ⟨tv, pv, r⟩ := R
      exact ⟨tv, pv, r.box, r.row, r.part, r.inj, ⟨hjl, r.ob⟩, fun x hx => ⟨hjl, r.ot x hx⟩, fun i t x hi hx => ⟨hjl, r.op i t x hi hx⟩⟩
  · intro i j x hi hj
    by_cases ei : i = h.L.length <;> by_cases ej : j = h.L.length
    · rw [ei, ej]
    · simp only [ei, if_pos, ej, if_false] at hi hj
      have := H.lt x (H.os j x hj.2).1; omega
    · simp only [ei, if_pos, ej, if_false] at hi hj
      have := H.lt x (H.os i x hi.2).1; omega
    · simp only [ei, ej, if_false] at hi hj
      exact H.dis i j x hi.2 hj.2
  · intro j x hj
    by_cases e : j = h.L.length
    · simp only [e, if_pos] at hj
      exact ⟨.inr hj, by omega, by show x ≠ G.bm; omega⟩
    · simp only [e, if_false] at hj
      exact ⟨.inl (H.os j x hj.2).1, (H.os j x hj.2).2⟩
  · rintro x (hx | hx)
    · have := H.lt x hx; simp; omega
    · subst hx; have := lt_of_block hb1; simpa using this
end
end Go.Proofs.Ytjhdpajpibdnaae
