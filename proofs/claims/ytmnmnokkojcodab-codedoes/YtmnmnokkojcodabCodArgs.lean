/-
  The arguments of the laws on modules, as they came in: modules, instructions, functions, ends; how long their lists can be.
-/
import Derived.Test.YtmnmnokkojcodabCodMem
import Derived.SizedLaws
import Derived.ProofKit
import Derived.OpenShut
namespace Go.Proofs.Ytmnmnokkojcodab
open Go.ChangeShapes Go.WideShapes Go.ChangeAt Go.RowKit Go.Deep
set_option linter.unusedVariables false

/-- All that a reading weighs is within reach. -/
def Wt {H : Type} (P : Program) (t : TypeId) (d : DataW H) : Prop := ∀ n ∈ d.weights P t, n ≤ reachBytes
/-- Whatever reads as t, its reading no deeper than n, is such a datum, within bounds. -/
def ReadsB (P : Program) (t : TypeId) {α : Type} (A : Lay α) (n : Nat) (Bd : α → Prop) : Prop :=
  P.cellsOf t = A.size ∧ ∀ {H : Type} {enc : TypeId × Value → H} {w : World} {base : Nat} {spare : Nat → Bool} {held : Bool} {fuel : Nat} {cs : List Value} {x : DataW H × List MemPlace},
    fuel ≤ n → DataW.trod enc P w base spare held fuel t cs = some x → Wt P t x.1 → ∃ d, A.In w (fun _ => True) d cs ∧ Bd d

theorem ReadsB.int {P : Program} {t : TypeId} (n : Nat) (h : P.underlying t = some (.int .i64)) (hc : P.cellsOf t = 1) : ReadsB P t Lay.int n (fun _ => True) :=
  ⟨hc, fun _ h' _ => by
    obtain ⟨k, e, _, wf⟩ := DataW.trod_int h h'
    exact ⟨k, ⟨e, Go.bounds_i64 wf⟩, trivial⟩⟩

theorem weightsAll_mem {H : Type} {P : Program} {e : TypeId} : ∀ {l : List (DataW H)} {d : DataW H}, d ∈ l → ∀ n ∈ d.weights P e, n ∈ DataW.weightsAll P e l
  | d0 :: l, d, h, n, hn => by
    simp only [DataW.weightsAll, List.mem_append]
    rcases List.mem_cons.1 h with rfl | h
    · exact .inl hn
    · exact .inr (weightsAll_mem h n hn)

theorem ReadsB.list {P : Program} {t e : TypeId} {α : Type} {A : Lay α} {n : Nat} {Bd : α → Prop} (h : P.underlying t = some (.slice e)) (hc : P.cellsOf t = 1) (hA : ReadsB P e A n Bd) (h0 : 0 < A.size) (hbe : 0 < P.bytesOf e) : ReadsB P t A.list n (fun l => l.length < 1152921504606846976) :=
  ⟨hc, fun {H enc w base spare held fuel cs x} hf h' hw => by
    rcases DataW.trod_slice h h' with ⟨e2, _⟩ | ⟨a, len, cap, elems, rest, q, rfl, e2, ex, hb, hl, hm, hlen, hel, _, _⟩
    · exact ⟨[], by rw [e2]; exact Lay.list_nil A _ _ _ _, by simp⟩
    · have hlw : (elems.length + rest.length) * P.bytesOf e ≤ reachBytes := hw _ (by rw [ex]; simp [DataW.weights, h])
      have hlb : len < 1152921504606846976 := by
        have h1 : elems.length * 1 ≤ (elems.length + rest.length) * P.bytesOf e := Nat.mul_le_mul (by omega) hbe
        have h2 : reachBytes < 1152921504606846976 := by decide
        omega
      have hel' : ∀ i, i < len → ∃ y, elems[i]? = some y ∧ Wt P e y.1 := fun i hi => by
        refine ⟨elems[i]'(by omega), List.getElem?_eq_getElem (by omega), fun k hk => hw k ?_⟩
        rw [ex]
        simp only [DataW.weights, h, List.mem_cons, List.mem_append]
        exact .inr (.inl (weightsAll_mem (List.mem_map_of_mem (List.getElem_mem (by omega))) k hk))
      obtain ⟨l, hll, hp⟩ := list_of' (P := fun i (d : α) => ∃ ds, w.cells? base (a.add (i * A.size)) A.size = some ds ∧ A.In w (fun _ => True) d ds) len (fun i hi => by
        have he := hel i hi
        obtain ⟨y, hy, hwy⟩ := hel' i hi
        rw [hy, hA.1] at he
        rw [Option.bind_eq_some_iff] at he
        obtain ⟨ds, hds, htr⟩ := he
        obtain ⟨d, hd, _⟩ := hA.2 (by omega) htr hwy
        exact ⟨d, ds, hds, hd⟩)
      refine ⟨l, ⟨some a, cap, by rw [e2, hll], fun i x hx => ?_⟩, by omega⟩
      obtain ⟨ds, hds, hd⟩ := hp i x hx
      obtain ⟨_, hcl, hcell⟩ := World.cells?_some hds
      obtain ⟨b, off, spot⟩ := a
      have hspot : spot = none := by
        have hi : 0 < l.length := Nat.lt_of_le_of_lt (Nat.zero_le i) (List.getElem?_eq_some_iff.1 hx).1
        obtain ⟨ds0, hds0, hd0⟩ := hp 0 l[0] (List.getElem?_eq_getElem hi)
        have hl0 : 0 < ds0.length := by rw [A.len hd0]; exact h0
        have := (World.cells?_some hds0).2.2 0 h0
        rw [List.getElem?_eq_getElem hl0] at this
        simpa [Addr.add] using World.cell?_spot this
      subst hspot
      have key : ∀ j, j < A.size → w.cell? ⟨b, off + i * A.size + j, none⟩ = ds[j]? := fun j hj => by
        have := hcell j hj
        rw [Go.WideShapes.add_plain, Go.WideShapes.add_plain] at this
        exact this
      refine ⟨b, off, ds, rfl, trivial, ?_, key, hd⟩
      have hl0 : 0 < ds.length := by rw [A.len hd]; exact h0
      have := key 0 h0
      rw [List.getElem?_eq_getElem hl0] at this
      exact World.block_lt_of_cell? w _ this⟩

/-- Fields one behind the other, from the field i on, at the cell o. -/
def FieldsB (P : Program) (fs : Array Field) : Nat → Nat → {α : Type} → Lay α → Nat → (α → Prop) → Prop := fun i o α A n Bd =>
  ∀ (H : Type) (enc : TypeId × Value → H) (w : World) (base : Nat) (spare : Nat → Bool) (held : Bool) (fuel : Nat) (cs : List Value) (xs : List (DataW H × List MemPlace)),
    fuel ≤ n → cs.length = o + A.size → xs.length = fs.size → (∀ (j : Nat) (f : Field), fs[j]? = some f → DataW.trod enc P w base spare held fuel f.type ((cs.drop f.offset).take (P.cellsOf f.type)) = xs[j]?) →
    (∀ (j : Nat) (f : Field) x, fs[j]? = some f → xs[j]? = some x → Wt P f.type x.1) → ∃ d, A.In w (fun _ => True) d (cs.drop o) ∧ Bd d

theorem FieldsB.last {P : Program} {fs : Array Field} {i o n : Nat} {f : Field} {α : Type} {A : Lay α} {Bd : α → Prop} (hf : fs[i]? = some f) (ho : f.offset = o) (hA : ReadsB P f.type A n Bd) : FieldsB P fs i o A n Bd := by
  intro H enc w base spare held fuel cs xs hn hl hx h hw
  have g := h i f hf
  have hi : i < fs.size := (Array.getElem?_eq_some_iff.1 hf).1
  rw [List.getElem?_eq_getElem (by omega), ho, hA.1] at g
  obtain ⟨d, hd, hb⟩ := hA.2 hn g (hw i f _ hf (List.getElem?_eq_getElem (by omega)))
  refine ⟨d, ?_, hb⟩
  rwa [List.take_of_length_le (by simp; omega)] at hd

theorem FieldsB.cons {P : Program} {fs : Array Field} {i o n : Nat} {f : Field} {α β : Type} {A : Lay α} {B : Lay β} {Bd : α → Prop} {Be : β → Prop} (hf : fs[i]? = some f) (ho : f.offset = o) (hA : ReadsB P f.type A n Bd) (hB : FieldsB P fs (i + 1) (o + A.size) B n Be) : FieldsB P fs i o (A.pair B) n (fun x => Bd x.1 ∧ Be x.2) := by
  intro H enc w base spare held fuel cs xs hn hl hx h hw
  have g := h i f hf
  have hi : i < fs.size := (Array.getElem?_eq_some_iff.1 hf).1
  rw [List.getElem?_eq_getElem (by omega), ho, hA.1] at g
  obtain ⟨d, hd, hb⟩ := hA.2 hn g (hw i f _ hf (List.getElem?_eq_getElem (by omega)))
  have hs : (A.pair B).size = A.size + B.size := rfl
  obtain ⟨e, he, hb2⟩ := hB _ _ _ _ _ _ _ _ _ hn (by omega) hx h hw
  refine ⟨(d, e), ⟨_, _, ?_, hd, he⟩, hb, hb2⟩
  rw [← List.drop_drop, List.take_append_drop]

theorem ReadsB.struct {P : Program} {t : TypeId} {fs : Array Field} {α : Type} {A : Lay α} {n : Nat} {Bd : α → Prop} (h : P.underlying t = some (.struct fs)) (hc : P.cellsOf t = A.size) (hF : FieldsB P fs 0 0 A n Bd) : ReadsB P t A n Bd :=
  ⟨hc, fun {H enc w base spare held fuel cs x} hf h' hw => by
    obtain ⟨xs, m, rfl, ex, hcl, hxl, hfl⟩ := DataW.trod_struct h h'
    obtain ⟨d, hd, hb⟩ := hF _ _ _ _ _ _ _ _ _ (by omega) (by rw [hcl, hc]; omega) hxl hfl (fun j f y hj hy k hk => hw k (by
      rw [ex]
      simp only [DataW.weights, h]
      exact DataW.weights_mem_each (j := j) (t := f.type) (d := y.1) (by simp [hj]) (by simp [hy]) k hk))
    exact ⟨d, by simpa using hd, hb⟩⟩
theorem ReadsB.via {P : Program} {t : TypeId} {α β : Type} {A : Lay α} {n : Nat} {f : β → α} {Bd : α → Prop} (h : ReadsB P t A n Bd) (g : α → β) (hg : ∀ d, f (g d) = d) : ReadsB P t (A.via f) n (fun x => Bd (f x)) :=
  ⟨h.1, fun hf h' hw => by
    obtain ⟨d, hd, hb⟩ := h.2 hf h' hw
    exact ⟨g d, by show A.In _ _ (f (g d)) _; rw [hg]; exact hd, by show Bd (f (g d)); rw [hg]; exact hb⟩⟩

theorem own : ownKnob Try.prog.godebug = none := by kernel_rfl
theorem laidOut : laidOutB Try.prog = true := by kernel_rfl
theorem fieldsT : ∃ f0 f1 f2 : Field, Try.prog.underlying 90 = some (.struct #[f0, f1, f2]) ∧
    (f0.offset = 0 ∧ Try.prog.cellsOf f0.type = 1 ∧ Try.prog.underlying f0.type = some (.int .i64)) ∧ (f1.offset = 1 ∧ Try.prog.cellsOf f1.type = 1 ∧ Try.prog.underlying f1.type = some (.int .i64)) ∧
    (f2.offset = 2 ∧ Try.prog.cellsOf f2.type = 1 ∧ f2.type = 47) :=
  ⟨_, _, _, Try.underlying90, ⟨rfl, by kernel_rfl, by kernel_rfl⟩, ⟨rfl, by kernel_rfl, by kernel_rfl⟩, ⟨rfl, by kernel_rfl, rfl⟩⟩
theorem readsT (n : Nat) : ReadsB Try.prog 90 (Lay.tt n) n (fun _ => True) :=
  ⟨by kernel_rfl, fun {H enc w base spare held fuel cs x} hf h' hw => by
    obtain ⟨f0, f1, f2, e, h0, h1, h2⟩ := fieldsT
    obtain ⟨t, a, c, hc, h3, h4⟩ := tin_of (ti := 0) Try.underlying47 e (by kernel_rfl) h0 h1 h2 n fuel hf h'
    exact ⟨t, ⟨a, c, hc, h3, h4⟩, trivial⟩⟩
theorem readsI (n : Nat) : ReadsB Try.prog 3 Lay.int n (fun _ => True) := ReadsB.int n Try.underlying3 (by kernel_rfl)
theorem readsI6 (n : Nat) : ReadsB Try.prog 2 Lay.int n (fun _ => True) := ReadsB.int n Try.underlying2 (by kernel_rfl)
theorem readsIs (n : Nat) : ReadsB Try.prog 44 intsL n (fun l => l.length < 1152921504606846976) := ReadsB.list Try.underlying44 (by kernel_rfl) (readsI n) (by decide) (by rw [show Try.prog.bytesOf 3 = 8 from by kernel_rfl]; decide)
theorem readsTs (n : Nat) : ReadsB Try.prog 47 (typesL n) n (fun l => l.length < 1152921504606846976) := ReadsB.list Try.underlying47 (by kernel_rfl) (readsT n) (by show 0 < 3; decide) (by rw [show Try.prog.bytesOf 90 = 40 from by kernel_rfl]; decide)
set_option maxRecDepth 100000 in
theorem readsIns (n : Nat) : ReadsB Try.prog 46 insL n (fun x => x.regs.length < 1152921504606846976 ∧ x.args.length < 1152921504606846976) := by
  have h := ReadsB.struct (n := n) (A := Lay.int.pair (Lay.int.pair (Lay.int.pair (Lay.int.pair (Lay.int.pair (Lay.int.pair (intsL.pair intsL))))))) Try.underlying46 (by kernel_rfl) (FieldsB.cons rfl rfl (readsI n) (FieldsB.cons rfl rfl (readsI n) (FieldsB.cons rfl rfl (readsI n) (FieldsB.cons rfl rfl (readsI n) (FieldsB.cons rfl rfl (readsI n) (FieldsB.cons rfl rfl (readsI6 n) (FieldsB.cons rfl rfl (readsIs n) (FieldsB.last rfl rfl (readsIs n)))))))))
  have h2 := h.via (f := fun x : MIns => (x.op, x.a, x.b, x.c, x.k, x.n, x.regs, x.args)) (fun d => ⟨d.1, d.2.1, d.2.2.1, d.2.2.2.1, d.2.2.2.2.1, d.2.2.2.2.2.1, d.2.2.2.2.2.2.1, d.2.2.2.2.2.2.2⟩) (fun d => rfl)
  exact ⟨h2.1, fun hf h' hw => by obtain ⟨d, hd, hb⟩ := h2.2 hf h' hw; exact ⟨d, hd, hb.2.2.2.2.2.2⟩⟩
set_option maxRecDepth 100000 in
theorem readsTo (n : Nat) : ReadsB Try.prog 52 toL n (fun x => x.regs.length < 1152921504606846976 ∧ x.args.length < 1152921504606846976) := by
  have h := ReadsB.struct (n := n) (A := Lay.int.pair (intsL.pair intsL)) Try.underlying52 (by kernel_rfl) (FieldsB.cons rfl rfl (readsI n) (FieldsB.cons rfl rfl (readsIs n) (FieldsB.last rfl rfl (readsIs n))))
  have h2 := h.via (f := fun x : MTo => (x.block, x.regs, x.args)) (fun d => ⟨d.1, d.2.1, d.2.2⟩) (fun d => rfl)
  exact ⟨h2.1, fun hf h' hw => by obtain ⟨d, hd, hb⟩ := h2.2 hf h' hw; exact ⟨d, hd, hb.2⟩⟩
set_option maxRecDepth 100000 in
theorem readsEnd (n : Nat) : ReadsB Try.prog 54 endL n (fun x => (x.yes.regs.length < 1152921504606846976 ∧ x.yes.args.length < 1152921504606846976) ∧ (x.no.regs.length < 1152921504606846976 ∧ x.no.args.length < 1152921504606846976) ∧ x.args.length < 1152921504606846976) := by
  have h := ReadsB.struct (n := n) (A := Lay.int.pair (Lay.int.pair (toL.pair (toL.pair intsL)))) Try.underlying54 (by kernel_rfl) (FieldsB.cons rfl rfl (readsI n) (FieldsB.cons rfl rfl (readsI n) (FieldsB.cons rfl rfl (readsTo n) (FieldsB.cons rfl rfl (readsTo n) (FieldsB.last rfl rfl (readsIs n))))))
  have h2 := h.via (f := fun x : MEnd => (x.op, x.a, x.yes, x.no, x.args)) (fun d => ⟨d.1, d.2.1, d.2.2.1, d.2.2.2.1, d.2.2.2.2⟩) (fun d => rfl)
  exact ⟨h2.1, fun hf h' hw => by obtain ⟨d, hd, hb⟩ := h2.2 hf h' hw; exact ⟨d, hd, hb.2.2⟩⟩
theorem readsInss (n : Nat) : ReadsB Try.prog 75 insL.list n (fun l => l.length < 1152921504606846976) := ReadsB.list Try.underlying75 (by kernel_rfl) (readsIns n) (by decide) (by rw [show Try.prog.bytesOf 46 = 96 from by kernel_rfl]; decide)
set_option maxRecDepth 100000 in
theorem readsBlock (n : Nat) : ReadsB Try.prog 77 (blockL n) n (fun _ => True) := by
  have h := ReadsB.struct (n := n) (A := Lay.int.pair ((typesL n).pair (insL.list.pair endL))) Try.underlying77 (by kernel_rfl) (FieldsB.cons rfl rfl (readsI n) (FieldsB.cons rfl rfl (readsTs n) (FieldsB.cons rfl rfl (readsInss n) (FieldsB.last rfl rfl (readsEnd n)))))
  have h2 := h.via (f := fun x : MBlock n => (x.regs, x.params, x.code, x.fin)) (fun d => ⟨d.1, d.2.1, d.2.2.1, d.2.2.2⟩) (fun d => rfl)
  exact ⟨h2.1, fun hf h' hw => by obtain ⟨d, hd, hb⟩ := h2.2 hf h' hw; exact ⟨d, hd, trivial⟩⟩
theorem readsBlocks (n : Nat) : ReadsB Try.prog 48 (blockL n).list n (fun l => l.length < 1152921504606846976) := ReadsB.list Try.underlying48 (by kernel_rfl) (readsBlock n) (by show 0 < 12; decide) (by rw [show Try.prog.bytesOf 77 = 208 from by kernel_rfl]; decide)
set_option maxRecDepth 100000 in
theorem readsFunc (n : Nat) : ReadsB Try.prog 50 (funcL n) n (fun _ => True) := by
  have h := ReadsB.struct (n := n) (A := Lay.int.pair ((typesL n).pair ((typesL n).pair (blockL n).list))) Try.underlying50 (by kernel_rfl) (FieldsB.cons rfl rfl (readsI n) (FieldsB.cons rfl rfl (readsTs n) (FieldsB.cons rfl rfl (readsTs n) (FieldsB.last rfl rfl (readsBlocks n)))))
  have h2 := h.via (f := fun x : MFunc n => (x.regs, x.params, x.results, x.blocks)) (fun d => ⟨d.1, d.2.1, d.2.2.1, d.2.2.2⟩) (fun d => rfl)
  exact ⟨h2.1, fun hf h' hw => by obtain ⟨d, hd, hb⟩ := h2.2 hf h' hw; exact ⟨d, hd, trivial⟩⟩
theorem readsFuncs (n : Nat) : ReadsB Try.prog 37 (modL n) n (fun l => l.length < 1152921504606846976) := ReadsB.list Try.underlying37 (by kernel_rfl) (readsFunc n) (by show 0 < 4; decide) (by rw [show Try.prog.bytesOf 50 = 80 from by kernel_rfl]; decide)
set_option maxRecDepth 100000 in
theorem readsMod (n : Nat) : ReadsB Try.prog 39 (modL n) n (fun _ => True) := by
  have h := ReadsB.struct (n := n) (A := modL n) Try.underlying39 (by kernel_rfl) (FieldsB.last rfl rfl (readsFuncs n))
  exact ⟨h.1, fun hf h' hw => by obtain ⟨d, hd, hb⟩ := h.2 hf h' hw; exact ⟨d, hd, trivial⟩⟩
end Go.Proofs.Ytmnmnokkojcodab
