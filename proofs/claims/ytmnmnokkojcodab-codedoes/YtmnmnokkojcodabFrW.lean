/-
  The world beside such a walk: nothing of what was there has turned, and the boxes that the call has made lie as they are told (a list). No function of the program is spoken of.
-/
import Derived.Test.YtmnmnokkojcodabFr
import Derived.Test.YtmnmnokkojcodabCodBox
namespace Go.Proofs.Ytmnmnokkojcodab
open Go.RowKit
set_option linter.unusedVariables false

structure Wd (w0 w : World) (Bs : List (Nat × Array Value × TypeId)) : Prop where
  bel : Below w0.heap.size w0 w
  blk : ∀ (i : Nat) x, Bs[i]? = some x → Blk w x.1 x.2.1 x.2.2
  new : ∀ (i : Nat) x, Bs[i]? = some x → w0.heap.size ≤ x.1
  nd : ∀ (i j : Nat) x y, Bs[i]? = some x → Bs[j]? = some y → x.1 = y.1 → i = j

section
variable {w0 w w' : World} {Bs : List (Nat × Array Value × TypeId)}
theorem Wd.start (w : World) : Wd w w [] := ⟨Below.refl _ _, fun i x h => by simp at h, fun i x h => by simp at h, fun i j x y h => by simp at h⟩
theorem Wd.below (h : Wd w0 w Bs) (b : Below w.heap.size w w') : Wd w0 w' Bs := ⟨Below.andThen h.bel b, fun i x hx => (h.blk i x hx).below b, h.new, h.nd⟩
theorem Wd.get (h : Wd w0 w Bs) (i : Nat) {B : Nat} {c : Array Value} {t : TypeId} (hi : Bs[i]? = some (B, c, t)) : Blk w B c t := h.blk i _ hi
theorem Wd.new' (h : Wd w0 w Bs) (c : Array Value) (t : TypeId) : Wd w0 (w.alloc (.cells c t)) ((w.heap.size, c, t) :: Bs) := by
  refine ⟨Below.andThen h.bel (bel1 w _), fun i x hx => ?_, fun i x hx => ?_, fun i j x y hx hy e => ?_⟩
  · cases i with
    | zero => simp at hx; subst hx; exact Blk.new w c t
    | succ i => exact (h.blk i x (by simpa using hx)).alloc _
  · cases i with
    | zero => simp at hx; subst hx; exact h.bel.size
    | succ i => exact h.new i x (by simpa using hx)
  · cases i with
    | zero =>
      cases j with
      | zero => rfl
      | succ j =>
        simp at hx hy; subst hx
        have := (h.blk j y hy).lt
        simp at e; omega
    | succ i =>
      cases j with
      | zero =>
        simp at hx hy; subst hy
        have := (h.blk i x hx).lt
        simp at e; omega
      | succ j => rw [h.nd i j x y (by simpa using hx) (by simpa using hy) e]
theorem Wd.tail {x : Nat × Array Value × TypeId} (h : Wd w0 w (x :: Bs)) : Wd w0 w Bs :=
  ⟨h.bel, fun i y hy => h.blk (i + 1) y (by simpa using hy), fun i y hy => h.new (i + 1) y (by simpa using hy), fun i j y z hy hz e => by have := h.nd (i + 1) (j + 1) y z (by simpa using hy) (by simpa using hz) e; omega⟩
theorem Wd.set (h : Wd w0 w Bs) (i : Nat) {B : Nat} {c c' : Array Value} {t : TypeId} {Bs' : List (Nat × Array Value × TypeId)} (hi : Bs[i]? = some (B, c, t)) (j : Nat) (v : Value)
    (hc : c.setIfInBounds j v = c') (hB : Bs.set i (B, c', t) = Bs') : Wd w0 (w.setCell ⟨B, j, none⟩ v) Bs' := by
  subst hB
  subst hc
  have sp : ∀ (k : Nat) x, (Bs.set i (B, c.setIfInBounds j v, t))[k]? = some x → (k = i ∧ x = (B, c.setIfInBounds j v, t)) ∨ (k ≠ i ∧ Bs[k]? = some x) := by
    intro k x hx
    rw [List.getElem?_set] at hx
    split at hx
    · rename_i e
      subst e
      have hil : i < Bs.length := (List.getElem?_eq_some_iff.1 hi).1
      rw [if_pos hil] at hx
      exact .inl ⟨rfl, (Option.some.inj hx).symm⟩
    · rename_i e
      exact .inr ⟨fun e' => e e'.symm, hx⟩
  have key : ∀ (k : Nat) x, Bs[k]? = some x → k ≠ i → x.1 ≠ B := fun k x hx hk e => hk (h.nd k i x _ hx hi e)
  refine ⟨h.bel.setCell (p := ⟨B, j, none⟩) (h.new i _ hi) v, fun k x hx => ?_, fun k x hx => ?_, fun k l x y hx hy e => ?_⟩
  · rcases sp k x hx with ⟨rfl, rfl⟩ | ⟨hk, hx⟩
    · exact blockSet (h.blk k _ hi) j v
    · exact (h.blk k x hx).setOther (fun e => key k x hx hk e.symm) v
  · rcases sp k x hx with ⟨rfl, rfl⟩ | ⟨hk, hx⟩
    · exact h.new k (B, c, t) hi
    · exact h.new k x hx
  · rcases sp k x hx with ⟨hk, hx1⟩ | ⟨hk, hx1⟩
    · rcases sp l y hy with ⟨hl, hy1⟩ | ⟨hl, hy1⟩
      · rw [hk, hl]
      · rw [hx1] at e; exact absurd e.symm (key l y hy1 hl)
    · rcases sp l y hy with ⟨hl, hy1⟩ | ⟨hl, hy1⟩
      · rw [hy1] at e; exact absurd e (key k x hx1 hk)
      · exact h.nd k l x y hx1 hy1 e
/-- Many cells of one block, one behind the other. -/
def spliced (c : Array Value) (j : Nat) (vs : List Value) : Array Value := (c.toList.take j ++ (vs ++ c.toList.drop (j + vs.length))).toArray
theorem spliced_cons (c : Array Value) (j : Nat) (v : Value) (vs : List Value) (h : j + (v :: vs).length ≤ c.size) : spliced (c.setIfInBounds j v) (j + 1) vs = spliced c j (v :: vs) := by
  unfold spliced
  congr 1
  have hj : j < c.toList.length := by simp at h ⊢; omega
  simp only [Array.toList_setIfInBounds]
  rw [List.take_set, List.drop_set_of_lt (by omega), List.take_add_one, List.getElem?_eq_getElem hj]
  simp only [Option.toList, List.length_cons]
  have : (c.toList.take j ++ [c.toList[j]]).set j v = c.toList.take j ++ [v] := by
    rw [List.set_append_right _ _ (by simp; omega)]
    have hj' : j < c.size := by simpa using hj
    simp [Nat.min_eq_left (Nat.le_of_lt hj')]
  rw [this, Nat.add_assoc, Nat.add_comm 1]
  simp
theorem Wd.setAt (h : Wd w0 w Bs) (i : Nat) {B : Nat} {c c' : Array Value} {t : TypeId} {Bs' : List (Nat × Array Value × TypeId)} (hi : Bs[i]? = some (B, c, t)) (j : Nat) (vs : List Value)
    (hs : Nat.ble (j + vs.length) c.size = true) (hc : spliced c j vs = c') (hB : Bs.set i (B, c', t) = Bs') : Wd w0 (w.setCells B j vs) Bs' := by
  have hs' : j + vs.length ≤ c.size := by simpa [Nat.ble_eq] using hs
  clear hs
  induction vs generalizing w Bs c j with
  | nil =>
    subst hB
    have : c = c' := by rw [← hc]; unfold spliced; simp
    subst this
    have : Bs.set i (B, c, t) = Bs := by
      apply List.ext_getElem?
      intro k
      rw [List.getElem?_set]
      split
      · rename_i e; subst e; rw [hi]; simp [(List.getElem?_eq_some_iff.1 hi).1]
      · rfl
    rw [this]; exact h
  | cons v vs ih =>
    have hil : i < Bs.length := (List.getElem?_eq_some_iff.1 hi).1
    refine ih (c := c.setIfInBounds j v) (h.set i hi j v rfl rfl) (by rw [List.getElem?_set]; simp [hil]) (j + 1) ?_ ?_ ?_
    · rw [← hc, spliced_cons _ _ _ _ hs']
    · rw [List.set_set]; exact hB
    · simp at hs' ⊢; omega
theorem Wd.drewN (h : Wd w0 w Bs) (m : Nat) : Wd w0 (w.drewN m) Bs := ⟨drewN_below h.bel, fun i x hx => h.blk i x hx, h.new, h.nd⟩
end

theorem wrap_succ (q : Nat) (h : q < 4611686018427387904) : IntKind.i64.wrap ((q : Int) + 1) = (q : Int) + 1 := by
  have : (q : Int) < 4611686018427387904 := by omega
  have e1 : ((q : Int) + 1) % 2 ^ 64 = (q : Int) + 1 := by omega
  simp only [IntKind.wrap, IntKind.signed, IntKind.bits, e1, Bool.true_and]
  rw [if_neg (by simp only [decide_eq_true_eq]; omega)]
theorem Fr.sl2 {n : Nat} {a : Act} {L : List (Tmp × Value)} (h : Fr n a L) (t : Tmp) (v : Value) (e : L.lookup t = some v) : a.tmps[t]?.getD undef = v := by
  rw [← Array.getD_eq_getD_getElem?]; exact h.sl t v e
/-- What is new behind an allocation. -/
structure New (w w' : World) (B : Nat) : Prop where
  bel : Below w.heap.size w w'
  at_ : B = w.heap.size
  size : w'.heap.size = B + 1

theorem bel_cell {w w' : World} (b : Below w.heap.size w w') {p : Addr} {v : Value} (h : w.cell? p = some v) : w'.cell? p = some v :=
  (World.cell?_of_block (w := w) (a := p) (b.block p.block (World.block_lt_of_cell? w p h))).trans h
/-- A reader: a call that answers V and has turned nothing old. -/
def Rd (P : Program) (f : FuncId) (args : Array Value) (w : World) (V : Value) : Prop := Calls P f args w fun e w' => e = .returned V ∧ Below w.heap.size w w'

noncomputable def bdec (A : Prop) : Bool := @decide A (Classical.propDecidable A)
theorem bdec_iff {A : Prop} : bdec A = true ↔ A := by unfold bdec; simp
theorem bdec_true {A : Prop} (h : A) : bdec A = true := bdec_iff.2 h
theorem bdec_false {A : Prop} (h : ¬ A) : bdec A = false := by
  cases e : bdec A with
  | false => rfl
  | true => exact absurd (bdec_iff.1 e) h
theorem bdec_of {A : Prop} {q : Bool} (h : q = true ↔ A) : q = bdec A := by
  cases q with
  | false => exact (bdec_false fun ha => by have := h.2 ha; cases this).symm
  | true => exact (bdec_true (h.1 rfl)).symm

section
variable {P : Program} {n : Nat} {a : Act} {L : List (Tmp × Value)} {w0 w w' : World} {Bs Bs' : List (Nat × Array Value × TypeId)} {Q : Exit → Act → World → Prop} {ops : Array Oper} {o : Oper} {rest : List Oper} {t : Tmp} {v : Value}

theorem fr_new (c : Array Value) (ty : TypeId) (hF : Fr n a L) (hW : Wd w0 w Bs) (hd : o.dst = some t) (hg : o.guard = none) (ht : Nat.blt t n = true)
    (h : ∀ K : Act → World → Prop, K (a.put (some t) (.pointer (some ⟨w.heap.size, 0, none⟩))) (w.alloc (.cells c ty)) → o.wp P a w K Q)
    (k : ∀ a' w' B, Wd w0 w' ((B, c, ty) :: Bs) → New w w' B → Fr n a' ((t, .pointer (some ⟨B, 0, none⟩)) :: L) → wpList P ops Q rest a' w') : wpList P ops Q (o :: rest) a w :=
  fr_pure hF hd hg ht h fun a' hF' => k a' _ _ (hW.new' c ty) ⟨bel1 w _, rfl, by simp⟩ hF'
/-- A slice that is written out: its row. -/
theorem fr_row (c : Array Value) (ty : TypeId) (m : Nat) (hF : Fr n a L) (hW : Wd w0 w Bs) (hd : o.dst = some t) (hg : o.guard = none) (ht : Nat.blt t n = true)
    (h : ∀ K : Act → World → Prop, K (a.put (some t) (.slice (some ⟨w.heap.size, 0, none⟩) m m)) (w.alloc (.cells c ty)) → o.wp P a w K Q)
    (k : ∀ a' w' B, Wd w0 w' ((B, c, ty) :: Bs) → New w w' B → Fr n a' ((t, .slice (some ⟨B, 0, none⟩) m m) :: L) → wpList P ops Q rest a' w') : wpList P ops Q (o :: rest) a w :=
  fr_pure hF hd hg ht h fun a' hF' => k a' _ _ (hW.new' c ty) ⟨bel1 w _, rfl, by simp⟩ hF'
/-- A store into the boxes. -/
theorem fr_set (hF : Fr n a L) (hW : Wd w0 w' Bs') (hd : o.dst = none) (hg : o.guard = none)
    (h : ∀ K : Act → World → Prop, K a w' → o.wp P a w K Q)
    (k : ∀ w', Wd w0 w' Bs' → wpList P ops Q rest a w') : wpList P ops Q (o :: rest) a w :=
  fr_skip hF hd hg h (k _ hW)
theorem fr_read {f : FuncId} {args : Array Value} {V : Value} (hF : Fr n a L) (hW : Wd w0 w Bs) (hd : o.dst = some t) (hg : o.guard = none) (ht : Nat.blt t n = true)
    (hc : Rd P f args w V)
    (h : ∀ K : Act → World → Prop, (∀ w', Below w.heap.size w w' → K (a.put (some t) V) w') → o.wp P a w K Q)
    (k : ∀ a' w', Wd w0 w' Bs → Fr n a' ((t, V) :: L) → wpList P ops Q rest a' w') : wpList P ops Q (o :: rest) a w :=
  fr_call (fun v w' => v = V ∧ Below w.heap.size w w') hF hd hg ht (fun K hK => h K fun w' hb => hK _ _ ⟨rfl, hb⟩) fun a' v w' hR hF' => by
    obtain ⟨rfl, hb⟩ := hR
    exact k a' w' (hW.below hb) hF'
theorem fr_read_g {f : FuncId} {args : Array Value} {V : Value} {g tg : Nat} {want : Bool} (hF : Fr n a L) (hW : Wd w0 w Bs) (hd : o.dst = some t) (hg : o.guard = some (g, want)) (hs : (ops[g]?).bind (fun o : Oper => o.dst) = some tg) (htg : Nat.blt tg n = true) (hv : L.lookup tg = some (.bool want)) (ht : Nat.blt t n = true)
    (hc : Rd P f args w V)
    (h : ∀ K : Act → World → Prop, (∀ w', Below w.heap.size w w' → K (a.put (some t) V) w') → o.wp P a w K Q)
    (k : ∀ a' w', Wd w0 w' Bs → Fr n a' ((t, V) :: L) → wpList P ops Q rest a' w') : wpList P ops Q (o :: rest) a w :=
  fr_call_g (fun v w' => v = V ∧ Below w.heap.size w w') hF hd hg hs htg hv ht (fun K hK => h K fun w' hb => hK _ _ ⟨rfl, hb⟩) fun a' v w' hR hF' => by
    obtain ⟨rfl, hb⟩ := hR
    exact k a' w' (hW.below hb) hF'
theorem ret_tmp {fn : Func} {R : Ending → World → Prop} (hF : Fr n a L) (hr : fn.results = #[.tmp t]) (hv : L.lookup t = some v) (hR : R (.returned v) w) : bodyPost P fn R .ret a w :=
  bodyPost_ret ((results_tmp hr _ _ _).trans (by rw [hF.sl t v hv])) hF.defers hR
theorem end_tmp {fn : Func} {R : Ending → World → Prop} (hF : Fr n a L) (hr : fn.results = #[.tmp t]) (hv : L.lookup t = some v) (hR : R (.returned v) w) : bodyPost P fn R .normal a w :=
  bodyPost_end ((results_tmp hr _ _ _).trans (by rw [hF.sl t v hv])) hF.defers hR
end
end Go.Proofs.Ytmnmnokkojcodab
