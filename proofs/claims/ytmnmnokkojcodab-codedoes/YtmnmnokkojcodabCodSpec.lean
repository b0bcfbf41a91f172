/-
  What the document's chapter on modules says, as plain functions on modules: the code of an instruction's form, of an end's form, the first fault of a module and where it is.
-/
import Derived.Test.YtmnmnokkojcodabCodSt
namespace Go.Proofs.Ytmnmnokkojcodab
set_option linter.unusedVariables false

/-- Which fields an instruction of a kind has: A, B, C, K, N, Regs, Args. -/
def fieldsOf (op : Int) : Option (Bool × Bool × Bool × Bool × Bool × Bool × Bool) :=
  if op = 1 then some (false, false, false, false, true, false, false)
  else if op = 2 ∨ op = 7 then some (true, true, false, true, false, false, false)
  else if op = 3 ∨ op = 12 then some (false, false, false, false, false, false, false)
  else if op = 4 ∨ op = 11 ∨ op = 13 then some (true, false, false, false, false, false, false)
  else if op = 5 then some (true, false, false, false, false, false, true)
  else if op = 6 then some (true, false, false, true, false, false, false)
  else if op = 8 ∨ op = 9 then some (true, true, false, false, false, false, false)
  else if op = 10 then some (true, true, true, false, false, false, false)
  else if op = 14 then some (false, false, false, true, false, true, true)
  else none

/-- A field that it does not have is not 0, or not empty. -/
def MIns.formless (x : MIns) : Bool := match fieldsOf x.op with
  | none => false
  | some (a, b, c, k, n, rg, ar) => (!a && x.a != 0) || (!b && x.b != 0) || (!c && x.c != 0) || (!k && x.k != 0) || (!n && x.n != 0) || (!rg && decide (0 < x.regs.length)) || (!ar && decide (0 < x.args.length))

/-- The code of an instruction's form, in a module of so many functions. -/
def MIns.form (funcs : Nat) (x : MIns) : Int :=
  if (fieldsOf x.op).isNone then 3
  else if x.formless then 4
  else if x.op = 2 ∧ (x.k < 1 ∨ 9 < x.k) then 1
  else if x.op = 5 ∧ 8 < x.args.length then 2
  else if (x.op = 6 ∨ x.op = 7) ∧ (x.k < 0 ∨ 7 < x.k) then 1
  else if x.op = 14 ∧ (x.k < 0 ∨ (funcs : Int) ≤ x.k) then 1
  else if x.op = 14 ∧ (6 < x.regs.length ∨ 8 < x.args.length) then 2
  else 0

def MTo.form (blocks : Nat) (has : Bool) (t : MTo) : Int :=
  if has = false then (if t.block ≠ 0 ∨ 0 < t.regs.length + t.args.length then 4 else 0)
  else if t.block < 0 ∨ (blocks : Int) ≤ t.block then 1
  else if 16 < t.regs.length ∨ 8 < t.args.length then 2
  else 0

/-- The code of an end's form, in a function of so many blocks. -/
def MEnd.form (blocks : Nat) (e : MEnd) : Int :=
  if e.op < 1 ∨ 3 < e.op then 3
  else if (e.a ≠ 0 ∧ e.op ≠ 2) ∨ (0 < e.args.length ∧ e.op ≠ 3) then 4
  else if 8 < e.args.length then 2
  else if e.yes.form blocks (decide (e.op ≠ 3)) ≠ 0 then e.yes.form blocks (decide (e.op ≠ 3))
  else e.no.form blocks (decide (e.op = 2))

def listC {n : Nat} (regs : Int) (l : List (TT n)) : Int := if 8 < l.length then 2 else firstL (TT.check regs) l

/-- The first of a list of faults that is one. -/
def firstF {α : Type} (f : Nat → α → Int × Int) : Nat → List α → Int × Int
  | _, [] => (0, 0)
  | i, x :: xs => if (f i x).1 ≠ 0 then f i x else firstF f (i + 1) xs

/-- Are they one? -/
def TT.dec : (n : Nat) → DecidableEq (TT n)
  | 0 => fun t _ => Empty.elim t
  | n + 1 => fun t u => match (TT.dec n) with
    | d => if h1 : t.1 = u.1 then if h2 : t.2.1 = u.2.1 then match (@List.hasDecEq _ d t.2.2 u.2.2) with
        | isTrue h3 => isTrue (by obtain ⟨a, b, c⟩ := t; obtain ⟨a', b', c'⟩ := u; simp only at h1 h2 h3; subst h1 h2 h3; rfl)
        | isFalse h3 => isFalse (fun e => h3 (by rw [e]))
      else isFalse (fun e => h2 (by rw [e])) else isFalse (fun e => h1 (by rw [e]))
def sameL {n : Nat} (l m : List (TT n)) : Bool := match @List.hasDecEq _ (TT.dec n) l m with
  | isTrue _ => true
  | isFalse _ => false
theorem sameL_iff {n : Nat} {l m : List (TT n)} : sameL l m = true ↔ l = m := by
  unfold sameL
  split
  · rename_i h _; simp [h]
  · rename_i h _; simp [h]

/-- The fault of a block, the number b of the function f. -/
def MBlock.fault {n : Nat} (funcs : Nat) (f : Nat) (fn : MFunc n) (b : Nat) (x : MBlock n) : Int × Int :=
  if x.regs < fn.regs ∨ 16 < x.regs then (1, 10000 * f + 100 * b + 90)
  else if listC x.regs x.params ≠ 0 then (listC x.regs x.params, 10000 * f + 100 * b + 90)
  else if b = 0 ∧ (x.regs ≠ fn.regs ∨ sameL x.params fn.params = false) then (9, 10000 * f + 100 * b + 90)
  else if 40 < x.code.length then (2, 10000 * f + 100 * b + 90)
  else if (firstF (fun i y => (MIns.form funcs y, (10000 * f + 100 * b + i : Int))) 0 x.code).1 ≠ 0 then firstF (fun i y => (MIns.form funcs y, (10000 * f + 100 * b + i : Int))) 0 x.code
  else if x.fin.form fn.blocks.length ≠ 0 then (x.fin.form fn.blocks.length, 10000 * f + 100 * b + 91)
  else (0, 0)

/-- The fault of a function. -/
def MFunc.fault {n : Nat} (funcs : Nat) (f : Nat) (x : MFunc n) : Int × Int :=
  if x.regs < 0 ∨ 6 < x.regs then (1, 10000 * f + 9999)
  else if listC x.regs x.params ≠ 0 then (listC x.regs x.params, 10000 * f + 9999)
  else if listC x.regs x.results ≠ 0 then (listC x.regs x.results, 10000 * f + 9999)
  else if x.blocks.length < 1 ∨ 12 < x.blocks.length then (2, 10000 * f + 9999)
  else if f = 0 ∧ ¬ (x.regs = 0 ∧ x.params.length = 0 ∧ x.results.all (fun t => t.kind == 1) = true) then (18, 10000 * f + 9999)
  else firstF (fun b y => MBlock.fault funcs f x b y) 0 x.blocks

/-- The fault of a module: its code and where it is. -/
def modFault {n : Nat} (m : List (MFunc n)) : Int × Int :=
  if m.length < 1 ∨ 8 < m.length then (2, -1) else firstF (fun f x => MFunc.fault m.length f x) 0 m

/-- More than is gone through in time? -/
def greatTs {n : Nat} (l : List (TT n)) : Prop := 200 < l.length ∨ ∃ t ∈ l, 2000 < t.count
def MBlock.great {n : Nat} (x : MBlock n) : Prop := 200 < x.code.length ∨ greatTs x.params ∨ 300 < x.fin.args.length ∨ 300 < x.fin.yes.regs.length ∨ 300 < x.fin.yes.args.length ∨ 300 < x.fin.no.regs.length ∨ 300 < x.fin.no.args.length ∨ ∃ y ∈ x.code, 300 < y.regs.length ∨ 300 < y.args.length
def MFunc.great {n : Nat} (x : MFunc n) : Prop := 30 < x.blocks.length ∨ greatTs x.params ∨ greatTs x.results ∨ ∃ y ∈ x.blocks, y.great
def greatMod {n : Nat} (m : List (MFunc n)) : Prop := 20 < m.length ∨ ∃ x ∈ m, x.great

theorem firstF_eq {α : Type} {f : Nat → α → Int × Int} : ∀ {l : List α} {i j : Nat} {x : α}, l[i]? = some x → (∀ k y, k < i → l[k]? = some y → (f (j + k) y).1 = 0) → (f (j + i) x).1 ≠ 0 → firstF f j l = f (j + i) x
  | [], i, j, x, h, _, _ => by simp at h
  | y :: ys, 0, j, x, h, _, hf => by
    simp at h; subst h
    simp only [firstF]
    rw [if_pos (by simpa using hf)]
    rfl
  | y :: ys, i + 1, j, x, h, hz, hf => by
    have h0 : (f j y).1 = 0 := by simpa using hz 0 y (by omega) rfl
    simp only [firstF, h0, ne_eq, not_true_eq_false, if_false]
    have := firstF_eq (f := f) (l := ys) (i := i) (j := j + 1) (x := x) (by simpa using h) (fun k z hk hkz => by have := hz (k + 1) z (by omega) (by simpa using hkz); rwa [show j + 1 + k = j + (k + 1) by omega]) (by rwa [show j + 1 + i = j + (i + 1) by omega])
    rw [this, show j + 1 + i = j + (i + 1) by omega]
theorem firstF_zero {α : Type} {f : Nat → α → Int × Int} : ∀ {l : List α} {j : Nat}, (∀ (k : Nat) y, l[k]? = some y → (f (j + k) y).1 = 0) → firstF f j l = (0, 0)
  | [], _, _ => rfl
  | y :: ys, j, h => by
    have h0 : (f j y).1 = 0 := by simpa using h 0 y rfl
    simp only [firstF, h0, ne_eq, not_true_eq_false, if_false]
    exact firstF_zero (fun k z hz => by have := h (k + 1) z (by simpa using hz); rwa [show j + 1 + k = j + (k + 1) by omega])
end Go.Proofs.Ytmnmnokkojcodab
