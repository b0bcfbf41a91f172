/-
  Modules as plain data, and how they lie in memory. No function of the program is spoken of.
-/
import Derived.Test.YtcenkidhaoncgadLay
import Derived.Test.YtcenkidhaoncgadTypMem
namespace Go.Proofs.Ytcenkidhaoncgad
open Go.ChangeShapes Go.WideShapes Go.ChangeAt Go.RowKit Go.Deep
set_option linter.unusedVariables false

structure MIns where
  op : Int
  a : Int
  b : Int
  c : Int
  k : Int
  n : Int
  regs : List Int
  args : List Int
structure MTo where
  block : Int
  regs : List Int
  args : List Int
structure MEnd where
  op : Int
  a : Int
  yes : MTo
  no : MTo
  args : List Int
structure MBlock (n : Nat) where
  regs : Int
  params : List (TT n)
  code : List MIns
  fin : MEnd
structure MFunc (n : Nat) where
  regs : Int
  params : List (TT n)
  results : List (TT n)
  blocks : List (MBlock n)

/-- Said by other data. -/
def Lay.via {α β : Type} (A : Lay α) (f : β → α) : Lay β where
  size := A.size
  In := fun w O x cs => A.In w O (f x) cs
  len := fun h => A.len h
  keep := fun hb hl h => A.keep hb hl h
theorem Reads.via {P : Program} {t : TypeId} {α β : Type} {A : Lay α} {n : Nat} {f : β → α} (h : Reads P t A n) (g : α → β) (hg : ∀ d, f (g d) = d) : Reads P t (A.via f) n :=
  ⟨h.1, fun hf h' => by
    obtain ⟨d, hd⟩ := h.2 hf h'
    exact ⟨g d, by show A.In _ _ (f (g d)) _; rw [hg]; exact hd⟩⟩

/-- A type. -/
def Lay.tt (n : Nat) : Lay (TT n) where
  size := 3
  In := fun w O t cs => ∃ a c, cs = [.int .i64 t.kind, .int .i64 t.r, .slice a t.len c] ∧ TIn w O t a ∧ t.ok
  len := fun ⟨_, _, e, _⟩ => by rw [e]; rfl
  keep := fun hb hl ⟨a, c, e, h1, h2⟩ => ⟨a, c, e, h1.keep hb hl, h2⟩

abbrev intsL : Lay (List Int) := Lay.int.list
abbrev typesL (n : Nat) : Lay (List (TT n)) := (Lay.tt n).list
def insL : Lay MIns := (Lay.int.pair (Lay.int.pair (Lay.int.pair (Lay.int.pair (Lay.int.pair (Lay.int.pair (intsL.pair intsL))))))).via (fun x => (x.op, x.a, x.b, x.c, x.k, x.n, x.regs, x.args))
def toL : Lay MTo := (Lay.int.pair (intsL.pair intsL)).via (fun x => (x.block, x.regs, x.args))
def endL : Lay MEnd := (Lay.int.pair (Lay.int.pair (toL.pair (toL.pair intsL)))).via (fun x => (x.op, x.a, x.yes, x.no, x.args))
def blockL (n : Nat) : Lay (MBlock n) := (Lay.int.pair ((typesL n).pair (insL.list.pair endL))).via (fun x => (x.regs, x.params, x.code, x.fin))
def funcL (n : Nat) : Lay (MFunc n) := (Lay.int.pair ((typesL n).pair ((typesL n).pair (blockL n).list))).via (fun x => (x.regs, x.params, x.results, x.blocks))
/-- A module: its functions. -/
abbrev modL (n : Nat) : Lay (List (MFunc n)) := (funcL n).list

section
variable {w : World} {O : Nat → Prop} {n : Nat} {cs : List Value}
theorem list_form {α : Type} {A : Lay α} {l : List α} (h : A.list.In w O l cs) : ∃ a c, cs = [.slice a l.length c] ∧ A.list.In w O l [.slice a l.length c] := by
  obtain ⟨a, c, e, h⟩ := h
  exact ⟨a, c, e, a, c, rfl, h⟩
theorem to_form {x : MTo} (h : toL.In w O x cs) : ∃ a c b d, cs = [.int .i64 x.block, .slice a x.regs.length c, .slice b x.args.length d] ∧ intsL.In w O x.regs [.slice a x.regs.length c] ∧ intsL.In w O x.args [.slice b x.args.length d] ∧ (-9223372036854775808 ≤ x.block ∧ x.block ≤ 9223372036854775807) := by
  obtain ⟨_, _, rfl, ⟨rfl, h0⟩, ⟨_, _, rfl, h1, h2⟩⟩ := h
  obtain ⟨a, c, rfl, h1⟩ := list_form h1
  obtain ⟨b, d, rfl, h2⟩ := list_form h2
  exact ⟨a, c, b, d, rfl, h1, h2, h0⟩
theorem to_mk {x : MTo} {a b : Option Addr} {c d : Nat} (h1 : intsL.In w O x.regs [.slice a x.regs.length c]) (h2 : intsL.In w O x.args [.slice b x.args.length d]) (h0 : -9223372036854775808 ≤ x.block ∧ x.block ≤ 9223372036854775807) :
    toL.In w O x [.int .i64 x.block, .slice a x.regs.length c, .slice b x.args.length d] := ⟨_, _, rfl, ⟨rfl, h0⟩, ⟨_, _, rfl, h1, h2⟩⟩
theorem ins_form {x : MIns} (h : insL.In w O x cs) : ∃ a c b d, cs = [.int .i64 x.op, .int .i64 x.a, .int .i64 x.b, .int .i64 x.c, .int .i64 x.k, .int .i64 x.n, .slice a x.regs.length c, .slice b x.args.length d] ∧ intsL.In w O x.regs [.slice a x.regs.length c] ∧ intsL.In w O x.args [.slice b x.args.length d] ∧
    ((-9223372036854775808 ≤ x.op ∧ x.op ≤ 9223372036854775807) ∧ (-9223372036854775808 ≤ x.a ∧ x.a ≤ 9223372036854775807) ∧ (-9223372036854775808 ≤ x.b ∧ x.b ≤ 9223372036854775807) ∧ (-9223372036854775808 ≤ x.c ∧ x.c ≤ 9223372036854775807) ∧ (-9223372036854775808 ≤ x.k ∧ x.k ≤ 9223372036854775807) ∧ (-9223372036854775808 ≤ x.n ∧ x.n ≤ 9223372036854775807)) := by
  obtain ⟨_, _, rfl, ⟨rfl, h0⟩, ⟨_, _, rfl, ⟨rfl, h1⟩, ⟨_, _, rfl, ⟨rfl, h2⟩, ⟨_, _, rfl, ⟨rfl, h3⟩, ⟨_, _, rfl, ⟨rfl, h4⟩, ⟨_, _, rfl, ⟨rfl, h5⟩, ⟨_, _, rfl, h6, h7⟩⟩⟩⟩⟩⟩⟩ := h
  obtain ⟨a, c, rfl, h6⟩ := list_form h6
  obtain ⟨b, d, rfl, h7⟩ := list_form h7
  exact ⟨a, c, b, d, rfl, h6, h7, h0, h1, h2, h3, h4, h5⟩
theorem ins_mk {x : MIns} {a b : Option Addr} {c d : Nat} (h1 : intsL.In w O x.regs [.slice a x.regs.length c]) (h2 : intsL.In w O x.args [.slice b x.args.length d])
    (h0 : (-9223372036854775808 ≤ x.op ∧ x.op ≤ 9223372036854775807) ∧ (-9223372036854775808 ≤ x.a ∧ x.a ≤ 9223372036854775807) ∧ (-9223372036854775808 ≤ x.b ∧ x.b ≤ 9223372036854775807) ∧ (-9223372036854775808 ≤ x.c ∧ x.c ≤ 9223372036854775807) ∧ (-9223372036854775808 ≤ x.k ∧ x.k ≤ 9223372036854775807) ∧ (-9223372036854775808 ≤ x.n ∧ x.n ≤ 9223372036854775807)) :
    insL.In w O x [.int .i64 x.op, .int .i64 x.a, .int .i64 x.b, .int .i64 x.c, .int .i64 x.k, .int .i64 x.n, .slice a x.regs.length c, .slice b x.args.length d] :=
  ⟨_, _, rfl, ⟨rfl, h0.1⟩, ⟨_, _, rfl, ⟨rfl, h0.2.1⟩, ⟨_, _, rfl, ⟨rfl, h0.2.2.1⟩, ⟨_, _, rfl, ⟨rfl, h0.2.2.2.1⟩, ⟨_, _, rfl, ⟨rfl, h0.2.2.2.2.1⟩, ⟨_, _, rfl, ⟨rfl, h0.2.2.2.2.2⟩, ⟨_, _, rfl, h1, h2⟩⟩⟩⟩⟩⟩⟩
theorem end_form {x : MEnd} (h : endL.In w O x cs) : ∃ c1 c2 a c, cs = .int .i64 x.op :: .int .i64 x.a :: (c1 ++ (c2 ++ [.slice a x.args.length c])) ∧ toL.In w O x.yes c1 ∧ toL.In w O x.no c2 ∧ intsL.In w O x.args [.slice a x.args.length c] ∧ ((-9223372036854775808 ≤ x.op ∧ x.op ≤ 9223372036854775807) ∧ (-9223372036854775808 ≤ x.a ∧ x.a ≤ 9223372036854775807)) := by
  obtain ⟨_, _, rfl, ⟨rfl, h0⟩, ⟨_, _, rfl, ⟨rfl, h1⟩, ⟨c1, _, rfl, h2, ⟨c2, _, rfl, h3, h4⟩⟩⟩⟩ := h
  obtain ⟨a, c, rfl, h4⟩ := list_form h4
  exact ⟨c1, c2, a, c, rfl, h2, h3, h4, h0, h1⟩
theorem end_mk {x : MEnd} {c1 c2 : List Value} {a : Option Addr} {c : Nat} (h2 : toL.In w O x.yes c1) (h3 : toL.In w O x.no c2) (h4 : intsL.In w O x.args [.slice a x.args.length c]) (h0 : (-9223372036854775808 ≤ x.op ∧ x.op ≤ 9223372036854775807) ∧ (-9223372036854775808 ≤ x.a ∧ x.a ≤ 9223372036854775807)) :
    endL.In w O x (.int .i64 x.op :: .int .i64 x.a :: (c1 ++ (c2 ++ [.slice a x.args.length c]))) := ⟨[_], _, rfl, ⟨rfl, h0.1⟩, ⟨[_], _, rfl, ⟨rfl, h0.2⟩, ⟨c1, _, rfl, h2, ⟨c2, _, rfl, h3, h4⟩⟩⟩⟩
theorem block_form {x : MBlock n} (h : (blockL n).In w O x cs) : ∃ a c b d es, cs = .int .i64 x.regs :: .slice a x.params.length c :: .slice b x.code.length d :: es ∧ (typesL n).In w O x.params [.slice a x.params.length c] ∧ insL.list.In w O x.code [.slice b x.code.length d] ∧ endL.In w O x.fin es ∧ (-9223372036854775808 ≤ x.regs ∧ x.regs ≤ 9223372036854775807) := by
  obtain ⟨_, _, rfl, ⟨rfl, h0⟩, ⟨_, _, rfl, h1, ⟨_, es, rfl, h2, h3⟩⟩⟩ := h
  obtain ⟨a, c, rfl, h1⟩ := list_form h1
  obtain ⟨b, d, rfl, h2⟩ := list_form h2
  exact ⟨a, c, b, d, es, rfl, h1, h2, h3, h0⟩
theorem block_mk {x : MBlock n} {a b : Option Addr} {c d : Nat} {es : List Value} (h1 : (typesL n).In w O x.params [.slice a x.params.length c]) (h2 : insL.list.In w O x.code [.slice b x.code.length d]) (h3 : endL.In w O x.fin es) (h0 : -9223372036854775808 ≤ x.regs ∧ x.regs ≤ 9223372036854775807) :
    (blockL n).In w O x (.int .i64 x.regs :: .slice a x.params.length c :: .slice b x.code.length d :: es) := ⟨[_], _, rfl, ⟨rfl, h0⟩, ⟨[_], _, rfl, h1, ⟨[_], es, rfl, h2, h3⟩⟩⟩
theorem func_form {x : MFunc n} (h : (funcL n).In w O x cs) : ∃ a c b d e f, cs = [.int .i64 x.regs, .slice a x.params.length c, .slice b x.results.length d, .slice e x.blocks.length f] ∧ (typesL n).In w O x.params [.slice a x.params.length c] ∧ (typesL n).In w O x.results [.slice b x.results.length d] ∧ (blockL n).list.In w O x.blocks [.slice e x.blocks.length f] ∧ (-9223372036854775808 ≤ x.regs ∧ x.regs ≤ 9223372036854775807) := by
  obtain ⟨_, _, rfl, ⟨rfl, h0⟩, ⟨_, _, rfl, h1, ⟨_, _, rfl, h2, h3⟩⟩⟩ := h
  obtain ⟨a, c, rfl, h1⟩ := list_form h1
  obtain ⟨b, d, rfl, h2⟩ := list_form h2
  obtain ⟨e, f, rfl, h3⟩ := list_form h3
  exact ⟨a, c, b, d, e, f, rfl, h1, h2, h3, h0⟩
theorem func_mk {x : MFunc n} {a b e : Option Addr} {c d f : Nat} (h1 : (typesL n).In w O x.params [.slice a x.params.length c]) (h2 : (typesL n).In w O x.results [.slice b x.results.length d]) (h3 : (blockL n).list.In w O x.blocks [.slice e x.blocks.length f]) (h0 : -9223372036854775808 ≤ x.regs ∧ x.regs ≤ 9223372036854775807) :
    (funcL n).In w O x [.int .i64 x.regs, .slice a x.params.length c, .slice b x.results.length d, .slice e x.blocks.length f] := ⟨[_], _, rfl, ⟨rfl, h0⟩, ⟨[_], _, rfl, h1, ⟨[_], _, rfl, h2, h3⟩⟩⟩

/-- A list of numbers: the cells. -/
theorem ints_at {l : List Int} {a : Option Addr} {m c : Nat} (h : intsL.In w O l [.slice a m c]) {i : Nat} (hi : i < l.length) : ∃ g o, a = some ⟨g, o, none⟩ ∧ O g ∧ g < w.heap.size ∧ w.cell? ⟨g, o + i, none⟩ = some (.int .i64 (l.getD i 0)) := by
  obtain ⟨g, o, ds, e, h1, h2, h3, rfl, _⟩ := Lay.list_at h (List.getElem?_eq_getElem hi)
  refine ⟨g, o, e, h1, h2, ?_⟩
  have := h3 0 (by decide)
  have hs : Lay.int.size = 1 := rfl
  rw [hs, Nat.mul_one, Nat.add_zero] at this
  rw [this]
  simp [List.getD, hi]
/-- A list of types, in the words of the texts on types. -/
theorem types_lin {l : List (TT n)} {a : Option Addr} {m c : Nat} (h : (typesL n).In w O l [.slice a m c]) : LIn w O l a ∧ ∀ x ∈ l, x.ok := by
  refine ⟨fun i x hx => ?_, fun x hx => ?_⟩
  · obtain ⟨g, o, ds, e, h1, h2, h3, a', c', rfl, h4, _⟩ := Lay.list_at h hx
    have hs : (Lay.tt n).size = 3 := rfl
    rw [hs] at h3
    exact ⟨g, o, a', c', e, h1, h3 0 (by omega), h3 1 (by omega), h3 2 (by omega), h4⟩
  · obtain ⟨i, hi, rfl⟩ := List.mem_iff_getElem.1 hx
    obtain ⟨g, o, ds, e, h1, h2, h3, a', c', rfl, h4, h5⟩ := Lay.list_at h (List.getElem?_eq_getElem hi)
    exact h5
theorem types_of_lin {l : List (TT n)} {a : Option Addr} {c : Nat} (h : LIn w O l a) (hok : ∀ x ∈ l, x.ok) : (typesL n).In w O l [.slice a l.length c] := by
  refine ⟨a, c, rfl, fun i x hx => ?_⟩
  obtain ⟨g, o, a', c', e, h1, h2, h3, h4, h5⟩ := LIn.at h hx
  refine ⟨g, o, [.int .i64 x.kind, .int .i64 x.r, .slice a' x.len c'], e, h1, World.block_lt_of_cell? w ⟨g, o + i * 3, none⟩ h2, fun j hj => ?_, a', c', rfl, h5, hok x (List.mem_of_getElem? hx)⟩
  have hj' : j < 3 := hj
  have hs : (Lay.tt n).size = 3 := rfl
  rw [hs]
  match j, hj' with
  | 0, _ => exact h2
  | 1, _ => exact h3
  | 2, _ => exact h4
end
end Go.Proofs.Ytcenkidhaoncgad
