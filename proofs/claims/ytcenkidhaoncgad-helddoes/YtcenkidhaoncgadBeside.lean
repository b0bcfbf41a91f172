/-
  What lies beside a reader or a writer: blocks that turn, boxes, rows that grow, what lies behind a box. No function of the program is spoken of.
-/
import Derived.Test.YtcenkidhaoncgadCodSt
import Derived.Test.YtcenkidhaoncgadBox
import Derived.Deep.MidRow
import Derived.Deep.Cut
import Derived.Deep.RegionLaw
import Derived.Deep.AppendLies
namespace Go.Proofs.Ytcenkidhaoncgad
open Go.ChangeShapes Go.WideShapes Go.ChangeAt Go.RowKit
set_option linter.unusedVariables false
set_option linter.unusedSimpArgs false

abbrev ptrP (b : Nat) : Value := .pointer (some ⟨b, 0, none⟩)
/-- Only the block b has turned, and new ones were made. -/
abbrev Chg (b : Nat) (w w' : World) : Prop := Step (fun k => k = b) (fun k => k = b) w w'
section
variable {b : Nat} {w w' w1 w2 : World}
theorem Chg.refl (b : Nat) (w : World) : Chg b w w := Step.refl _ _
theorem Chg.below (h : Below w.heap.size w w') : Chg b w w' := ⟨h.os, h.tape, h.output, h.size, fun k hk _ => h.block k hk, fun k hk => .inl hk⟩
theorem Chg.set (w : World) (o : Nat) (v : Value) (h : b < w.heap.size) : Chg b w (w.setCell ⟨b, o, none⟩ v) :=
  ⟨rfl, rfl, rfl, by simp, fun k _ hk => Below.heap_setCell _ _ _ _ hk, fun k hk => .inl hk⟩
theorem Chg.keep {α : Type} {A : Lay α} {O : Nat → Prop} {x : α} {cs : List Value} (h : A.In w O x cs) (c : Chg b w w') (ho : ∀ k, O k → k ≠ b) : A.In w' O x cs :=
  A.keep (fun k hO hk => c.block k hk (ho k hO)) (fun _ h _ => h) h
/-- At last: of what was there before the reader nothing has turned. -/
theorem Chg.last {s : Nat} (h : Below s w w1) (c : Chg b w1 w2) (hs : s ≤ b) (hs1 : s ≤ w1.heap.size) : Below s w w2 :=
  ⟨c.os.trans h.os, c.tape.trans h.tape, c.output.trans h.output, Nat.le_trans h.size c.size, fun k hk => (c.block k (by omega) (by omega)).trans (h.block k hk)⟩
end
theorem Blk.chg {w w' : World} {b B : Nat} {c : Array Value} {t : TypeId} (h : Blk w B c t) (k : Chg b w w') (hb : B ≠ b) : Blk w' B c t := (k.block B h.lt hb).trans h
/-- Only the blocks b and B have turned, and new ones were made. -/
abbrev Chg2 (b B : Nat) (w w' : World) : Prop := Step (fun k => k = b ∨ k = B) (fun k => k = b ∨ k = B) w w'
section
variable {b B : Nat} {w w' w0 : World}
theorem Chg2.refl (b B : Nat) (w : World) : Chg2 b B w w := Step.refl _ _
theorem Chg2.of (h : Chg b w w') : Chg2 b B w w' := ⟨h.os, h.tape, h.output, h.size, fun k hk hn => h.block k hk (fun e => hn (.inl e)), fun k hk => .inl hk⟩
theorem Chg2.set (w : World) (o : Nat) (v : Value) : Chg2 b B w (w.setCell ⟨B, o, none⟩ v) :=
  ⟨rfl, rfl, rfl, by simp, fun k _ hk => Below.heap_setCell _ _ _ _ (fun e => hk (.inr e)), fun k hk => .inl hk⟩
theorem Chg2.new (h : Chg b w0 w) (h2 : Chg2 b B w w') (hB : w0.heap.size ≤ B) : Chg b w0 w' :=
  ⟨h2.os.trans h.os, h2.tape.trans h.tape, h2.output.trans h.output, Nat.le_trans h.size h2.size, fun k hk hn => (h2.block k (Nat.lt_of_lt_of_le hk h.size) (fun e => by rcases e with e | e; exact hn e; omega)).trans (h.block k hk hn), fun k hk => .inl hk⟩
theorem Blk.chg2 {g : Nat} {c : Array Value} {t : TypeId} (h : Blk w g c t) (k : Chg2 b B w w') (h1 : g ≠ b) (h2 : g ≠ B) : Blk w' g c t := (k.block g h.lt (fun e => by rcases e with e | e; exact h1 e; exact h2 e)).trans h
theorem Chg2.keep {α : Type} {A : Lay α} {O : Nat → Prop} {x : α} {cs : List Value} (h : A.In w O x cs) (c : Chg2 b B w w') (ho : ∀ k, O k → k < w.heap.size → k ≠ b ∧ k ≠ B) : A.In w' O x cs :=
  A.keep (fun k hO hk => c.block k hk (fun e => by rcases e with e | e; exact (ho k hO hk).1 e; exact (ho k hO hk).2 e)) (fun _ h _ => h) h
end
/-- Cells, numbers put into them. -/
def putAll (cs : Array Value) : List Nat → List Int → Array Value
  | o :: os, x :: xs => putAll (cs.setIfInBounds o (.int .i64 x)) os xs
  | _, _ => cs
theorem ARow.chgP {α : Type} {A : Lay α} {t : TypeId} {w w' : World} {lo b : Nat} {v : Value} {l : List α} {xs : List Value} (h : ARow A t w lo v l xs) (c : Chg b w w') (hb : b < lo) : ARow A t w' lo v l xs := by
  obtain ⟨⟨h1, h2⟩, h3⟩ := h
  refine ⟨⟨h1, ?_⟩, fun i x hx => Chg.keep (h3 i x hx) c (fun k hk => by have := hk.1; omega)⟩
  rcases h2 with h4 | ⟨g, cap, cur, e, hg, hh, r⟩
  · exact Or.inl h4
  · exact Or.inr ⟨g, cap, cur, e, hg, (c.block g (lt_of_block hh) (by omega)).trans hh, r⟩
theorem Chg.allocP {b : Nat} {w w' : World} (c : Chg b w w') (o : Obj) : Chg b w (w'.alloc o) := c.trans (Chg.below (bel1 _ _))
theorem Chg.grownP {b : Nat} {w w1 w2 : World} {row : Option Nat} (c : Chg b w w1) (g : w1.grownBy w2 row) (hr : ∀ k, row = some k → w.heap.size ≤ k) : Chg b w w2 :=
  ⟨g.os.trans c.os, g.tape.trans c.tape, g.output.trans c.output, Nat.le_trans c.size g.size, fun k hk hn => (g.block k (Nat.lt_of_lt_of_le hk c.size) (fun e => by have := hr k e.symm; omega)).trans (c.block k hk hn), fun k hk => .inl hk⟩
/-- A slice's length. -/
def lenP (v : Value) : Nat :=
  match v with
  | .slice _ n _ => n
  | _ => 0
theorem ARow.formP {α : Type} {A : Lay α} {t : TypeId} {w : World} {lo : Nat} {v : Value} {l : List α} {xs : List Value} (h : ARow A t w lo v l xs) : ∃ a c, v = .slice a l.length c := by
  obtain ⟨a, c, e, _⟩ := h.lay
  simp at e
  exact ⟨a, c, e⟩
theorem pUnderI : Try.prog.underlying 28 = some (.slice 3) := by kernel_rfl
theorem pInfoI0 : (Try.prog.info? 3).map (fun i => (i.zero, i.size, i.bytes)) = some (some (.int .i64 0), 1, 8) := by kernel_rfl
theorem pInfoI : ∃ i, Try.prog.info? 3 = some i ∧ i.zero = some (.int .i64 0) ∧ i.size = 1 ∧ i.bytes = 8 := by
  have h := pInfoI0
  cases e : Try.prog.info? 3 with
  | none => rw [e] at h; cases h
  | some i =>
    rw [e] at h
    simp only [Option.map_some, Option.some.injEq, Prod.mk.injEq] at h
    exact ⟨i, rfl, h.1, h.2.1, h.2.2⟩
/-- The cells of a new block. -/
theorem newsP (w : World) (c : List Value) (t : TypeId) : ∀ (j : Nat) (u : Value), c[j]? = some u → (w.alloc (.cells c.toArray t)).cell? ((⟨w.heap.size, 0, none⟩ : Addr).add j) = some u := by
  intro j u h
  have h2 : c.toArray[j]? = some u := by simpa using h
  rw [Go.WideShapes.add_plain, Nat.zero_add]
  exact cellOf (blockNew w c.toArray t) j u h2
/-- What a list of numbers is told as. -/
def VInts (w0 : World) : World → List Int → Value → Prop := fun w' xs x => ∃ a c, x = .slice a xs.length c ∧ intsL.In w' (fun g => w0.heap.size ≤ g) xs [.slice a xs.length c]
theorem pOneI (n : Int) : ∀ u ∈ [Value.int .i64 n], u.oneCell' = true := by
  intro u h
  simp at h
  subst h; rfl
/-- What a type, a list of types, is told as. -/
def VTyp (d : Nat) (w0 : World) : World → TT (d + 1) → Value → Prop := fun w' t x => ∃ a c, x = .agg #[.int .i64 t.kind, .int .i64 t.r, .slice a t.len c] ∧ (Lay.tt (d + 1)).In w' (fun g => w0.heap.size ≤ g) t [.int .i64 t.kind, .int .i64 t.r, .slice a t.len c]
def VTyps (d : Nat) (w0 : World) : World → List (TT (d + 1)) → Value → Prop := fun w' xs x => ∃ a c, x = .slice a xs.length c ∧ (typesL (d + 1)).In w' (fun g => w0.heap.size ≤ g) xs [.slice a xs.length c]
theorem pOneT (k r : Int) (a : Option Addr) (l c : Nat) : ∀ u ∈ [Value.int .i64 k, Value.int .i64 r, Value.slice a l c], u.oneCell' = true := by
  intro u h
  simp at h
  rcases h with rfl | rfl | rfl <;> rfl
theorem Blk.set3 {w : World} {R : Nat} {p0 p1 p2 : Value} {t : TypeId} (h : Blk w R #[p0, p1, p2] t) (a b c : Value) : Blk (((w.setCell ⟨R, 0, none⟩ a).setCell ⟨R, 1, none⟩ b).setCell ⟨R, 2, none⟩ c) R #[a, b, c] t := by
  have h3 := blockSet (blockSet (blockSet h 0 a) 1 b) 2 c
  simpa using h3
theorem Chg.setNewP {b : Nat} {w w' : World} (h : Chg b w w') {q : Addr} (hq : w.heap.size ≤ q.block) (v : Value) : Chg b w (w'.setCell q v) :=
  ⟨h.os, h.tape, h.output, by have := h.size; simp; omega, fun k hk hn => (Below.heap_setCell _ _ _ _ (by omega)).trans (h.block k hk hn), fun k hk => .inl hk⟩
section
variable {w0 w w' : World} {b R B : Nat} {α : Type} {A : Lay α} {x : α} {cs : List Value}
/-- What lies behind the box. -/
def Kid {α : Type} (A : Lay α) (B : Nat) (w : World) (x : α) (cs : List Value) : Prop := A.In w (fun g => B < g) x cs
theorem Kid.mk (h : A.In w (fun g => w'.heap.size ≤ g) x cs) (hB : B < w'.heap.size) : Kid A B w x cs := Lay.mono h (fun k hk _ => by omega)
theorem Kid.chg (h : Kid A B w x cs) (k : Chg b w w') (hb : b ≤ B) : Kid A B w' x cs := Chg.keep h k (fun k hk => by omega)
theorem Kid.chg2 (h : Kid A B w x cs) (k : Chg2 b B w w') (hb : b ≤ B) : Kid A B w' x cs := Chg2.keep h k (fun k hk _ => by omega)
theorem Kid.set (h : Kid A B w x cs) {q : Addr} (hq : q.block ≤ B) (v : Value) : Kid A B (w.setCell q v) x cs := Lay.setCell h (by omega) v
theorem Kid.alloc (h : Kid A B w x cs) (o : Obj) : Kid A B (w.alloc o) x cs := Lay.alloc h o
theorem Kid.sets (h : Kid A B w x cs) {R : Nat} (hq : R ≤ B) : ∀ (vs : List Value) (o : Nat), Kid A B (w.setCells R o vs) x cs := fun vs o => A.keep (fun k hk _ => setCells_other (by omega) vs o w) (fun _ h _ => h) h
theorem Kid.out (h : Kid A B w x cs) (hB : w0.heap.size ≤ B) : A.In w (fun g => w0.heap.size ≤ g) x cs := Lay.mono h (fun k hk _ => by omega)
end
/-- Cells that are all stored. -/
theorem Blk.sets {R : Nat} {T : TypeId} : ∀ (vs us zs : List Value) (w : World), vs.length = zs.length → Blk w R (us ++ zs).toArray T → Blk (w.setCells R us.length vs) R (us ++ vs).toArray T
  | [], us, zs, w, hl, h => by
    have : zs = [] := List.length_eq_zero_iff.1 hl.symm
    subst this
    exact h
  | v :: vs, us, zs, w, hl, h => by
    cases zs with
    | nil => simp at hl
    | cons z zs =>
      have h1 := blockSet h us.length v
      have e1 : ((us ++ z :: zs).toArray.setIfInBounds us.length v) = ((us ++ [v]) ++ zs).toArray := by
        apply Array.ext'
        simp [List.set_append]
      rw [e1] at h1
      have := Blk.sets vs (us ++ [v]) zs (w.setCell ⟨R, us.length, none⟩ v) (by simpa using hl) h1
      simpa [World.setCells] using this
theorem cells3 {w : World} {B : Nat} {t : TypeId} {p0 p1 p2 : Value} (h : Blk w B #[p0, p1, p2] t) : w.cell? ⟨B, 0, none⟩ = some p0 ∧ w.cell? ⟨B, 1, none⟩ = some p1 ∧ w.cell? ⟨B, 2, none⟩ = some p2 := ⟨cellOf h 0 _ rfl, cellOf h 1 _ rfl, cellOf h 2 _ rfl⟩
theorem frees3 {w : World} {B : Nat} {t : TypeId} {c : Array Value} (h : Blk w B c t) : w.frozen? ⟨B, 0, none⟩ = false ∧ w.frozen? ⟨B, 1, none⟩ = false ∧ w.frozen? ⟨B, 2, none⟩ = false := ⟨freeOf h 0, freeOf h 1, freeOf h 2⟩
theorem cells4 {w : World} {B : Nat} {t : TypeId} {p0 p1 p2 p3 : Value} (h : Blk w B #[p0, p1, p2, p3] t) : w.cell? ⟨B, 0, none⟩ = some p0 ∧ w.cell? ⟨B, 1, none⟩ = some p1 ∧ w.cell? ⟨B, 2, none⟩ = some p2 ∧ w.cell? ⟨B, 3, none⟩ = some p3 := ⟨cellOf h 0 _ rfl, cellOf h 1 _ rfl, cellOf h 2 _ rfl, cellOf h 3 _ rfl⟩
theorem frees4 {w : World} {B : Nat} {t : TypeId} {c : Array Value} (h : Blk w B c t) : w.frozen? ⟨B, 0, none⟩ = false ∧ w.frozen? ⟨B, 1, none⟩ = false ∧ w.frozen? ⟨B, 2, none⟩ = false ∧ w.frozen? ⟨B, 3, none⟩ = false := ⟨freeOf h 0, freeOf h 1, freeOf h 2, freeOf h 3⟩
theorem cells8 {w : World} {B : Nat} {t : TypeId} {p0 p1 p2 p3 p4 p5 p6 p7 : Value} (h : Blk w B #[p0, p1, p2, p3, p4, p5, p6, p7] t) : w.cell? ⟨B, 0, none⟩ = some p0 ∧ w.cell? ⟨B, 1, none⟩ = some p1 ∧ w.cell? ⟨B, 2, none⟩ = some p2 ∧ w.cell? ⟨B, 3, none⟩ = some p3 ∧ w.cell? ⟨B, 4, none⟩ = some p4 ∧ w.cell? ⟨B, 5, none⟩ = some p5 ∧ w.cell? ⟨B, 6, none⟩ = some p6 ∧ w.cell? ⟨B, 7, none⟩ = some p7 := ⟨cellOf h 0 _ rfl, cellOf h 1 _ rfl, cellOf h 2 _ rfl, cellOf h 3 _ rfl, cellOf h 4 _ rfl, cellOf h 5 _ rfl, cellOf h 6 _ rfl, cellOf h 7 _ rfl⟩
theorem frees8 {w : World} {B : Nat} {t : TypeId} {c : Array Value} (h : Blk w B c t) : w.frozen? ⟨B, 0, none⟩ = false ∧ w.frozen? ⟨B, 1, none⟩ = false ∧ w.frozen? ⟨B, 2, none⟩ = false ∧ w.frozen? ⟨B, 3, none⟩ = false ∧ w.frozen? ⟨B, 4, none⟩ = false ∧ w.frozen? ⟨B, 5, none⟩ = false ∧ w.frozen? ⟨B, 6, none⟩ = false ∧ w.frozen? ⟨B, 7, none⟩ = false := ⟨freeOf h 0, freeOf h 1, freeOf h 2, freeOf h 3, freeOf h 4, freeOf h 5, freeOf h 6, freeOf h 7⟩
theorem cells9 {w : World} {B : Nat} {t : TypeId} {p0 p1 p2 p3 p4 p5 p6 p7 p8 : Value} (h : Blk w B #[p0, p1, p2, p3, p4, p5, p6, p7, p8] t) : w.cell? ⟨B, 0, none⟩ = some p0 ∧ w.cell? ⟨B, 1, none⟩ = some p1 ∧ w.cell? ⟨B, 2, none⟩ = some p2 ∧ w.cell? ⟨B, 3, none⟩ = some p3 ∧ w.cell? ⟨B, 4, none⟩ = some p4 ∧ w.cell? ⟨B, 5, none⟩ = some p5 ∧ w.cell? ⟨B, 6, none⟩ = some p6 ∧ w.cell? ⟨B, 7, none⟩ = some p7 ∧ w.cell? ⟨B, 8, none⟩ = some p8 := ⟨cellOf h 0 _ rfl, cellOf h 1 _ rfl, cellOf h 2 _ rfl, cellOf h 3 _ rfl, cellOf h 4 _ rfl, cellOf h 5 _ rfl, cellOf h 6 _ rfl, cellOf h 7 _ rfl, cellOf h 8 _ rfl⟩
theorem frees9 {w : World} {B : Nat} {t : TypeId} {c : Array Value} (h : Blk w B c t) : w.frozen? ⟨B, 0, none⟩ = false ∧ w.frozen? ⟨B, 1, none⟩ = false ∧ w.frozen? ⟨B, 2, none⟩ = false ∧ w.frozen? ⟨B, 3, none⟩ = false ∧ w.frozen? ⟨B, 4, none⟩ = false ∧ w.frozen? ⟨B, 5, none⟩ = false ∧ w.frozen? ⟨B, 6, none⟩ = false ∧ w.frozen? ⟨B, 7, none⟩ = false ∧ w.frozen? ⟨B, 8, none⟩ = false := ⟨freeOf h 0, freeOf h 1, freeOf h 2, freeOf h 3, freeOf h 4, freeOf h 5, freeOf h 6, freeOf h 7, freeOf h 8⟩
theorem Blk.range {w : World} {T : TypeId} {g : Nat} {c : List Value} (h : Blk w g c.toArray T) : w.rangeAt g 0 c := fun j v hv => by
  rw [Nat.zero_add]
  exact cellOf h j v (by simpa using hv)
theorem Blk.there {w : World} {T : TypeId} {g o n : Nat} {c : Array Value} (h : Blk w g c T) (hn : o + n ≤ c.size) : w.there g o n := fun j hj =>
  ⟨by rw [cellOf h (o + j) _ (Array.getElem?_eq_getElem (by omega))]; rfl, freeOf h (o + j)⟩
section
variable {w0 w w' : World} {b R B : Nat} {α : Type} {A : Lay α} {x : α} {cs : List Value} {lo : Nat}
theorem below_drew (w : World) : Below w.heap.size w w.drew := ⟨rfl, rfl, rfl, Nat.le_refl _, fun _ _ => rfl⟩
/-- What lies between the box and a row that grows. -/
def Mid {α : Type} (A : Lay α) (B lo : Nat) (w : World) (x : α) (cs : List Value) : Prop := A.In w (fun g => B < g ∧ g < lo) x cs
theorem Kid.mid (h : Kid A B w x cs) : Mid A B w.heap.size w x cs := Lay.mono h (fun k hk hl => ⟨hk, hl⟩)
theorem Mid.chg (h : Mid A B lo w x cs) (k : Chg b w w') (hb : b ≤ B) : Mid A B lo w' x cs := Chg.keep h k (fun k hk => by omega)
theorem Mid.below (h : Mid A B lo w x cs) (k : Below w.heap.size w w') : Mid A B lo w' x cs := Lay.below h k
theorem Mid.set (h : Mid A B lo w x cs) {q : Addr} (hq : q.block ≤ B) (v : Value) : Mid A B lo (w.setCell q v) x cs := Lay.setCell h (by omega) v
theorem Mid.grown {row : Option Nat} (h : Mid A B lo w x cs) (g : w.grownBy w' row) (hr : ∀ k, row = some k → lo ≤ k) : Mid A B lo w' x cs :=
  A.keep (fun k hk hl => g.block k hl (fun e => by have := hr k e.symm; omega)) (fun _ h _ => h) h
theorem Mid.kid (h : Mid A B lo w x cs) : Kid A B w x cs := Lay.mono h (fun k hk _ => hk.1)
theorem ARow.kidP {t : TypeId} {v : Value} {xs : List α} {ys : List Value} (h : ARow A t w lo v xs ys) (hB : B < lo) : Kid A.list B w xs [v] := Lay.mono h.lay (fun k hk _ => by omega)
end
theorem cells12 {w : World} {B : Nat} {t : TypeId} {p0 p1 p2 p3 p4 p5 p6 p7 p8 p9 p10 p11 : Value} (h : Blk w B #[p0, p1, p2, p3, p4, p5, p6, p7, p8, p9, p10, p11] t) : w.cell? ⟨B, 0, none⟩ = some p0 ∧ w.cell? ⟨B, 1, none⟩ = some p1 ∧ w.cell? ⟨B, 2, none⟩ = some p2 ∧ w.cell? ⟨B, 3, none⟩ = some p3 ∧ w.cell? ⟨B, 4, none⟩ = some p4 ∧ w.cell? ⟨B, 5, none⟩ = some p5 ∧ w.cell? ⟨B, 6, none⟩ = some p6 ∧ w.cell? ⟨B, 7, none⟩ = some p7 ∧ w.cell? ⟨B, 8, none⟩ = some p8 ∧ w.cell? ⟨B, 9, none⟩ = some p9 ∧ w.cell? ⟨B, 10, none⟩ = some p10 ∧ w.cell? ⟨B, 11, none⟩ = some p11 := ⟨cellOf h 0 _ rfl, cellOf h 1 _ rfl, cellOf h 2 _ rfl, cellOf h 3 _ rfl, cellOf h 4 _ rfl, cellOf h 5 _ rfl, cellOf h 6 _ rfl, cellOf h 7 _ rfl, cellOf h 8 _ rfl, cellOf h 9 _ rfl, cellOf h 10 _ rfl, cellOf h 11 _ rfl⟩
/-- What comes of an ending. -/
def Upon (K : Act → World → Prop) (Q : Exit → Act → World → Prop) (o : Oper) (a : Act) : Ending → World → Prop
  | .returned u, w => K (a.put o.dst u) w
  | .panicked chain, w => Q (.panic chain) a w
  | .outgrown, _ => LetsOut Q
theorem step_call_fn {P : Program} {ops : Array Oper} {o : Oper} {a : Act} {w : World} {K : Act → World → Prop} {Q : Exit → Act → World → Prop} {E : Prop} (hgd : o.guard = none) (F : Nat) (x : Operand) (t : TypeId)
    (ho : o.op = .call { callee := .value (.func F), args := #[x], argTypes := #[t] }) (hE : ∀ (args : Array Value) (w : World), (callFunc F args).run P w = .ok (.enter F args) w) (v : Value) (hx : a.eval x = v) {R : Ending → World → Prop} (C : Calls P F #[v] w R)
    (h : ∀ en w', R en w' → Upon K Q o a en w') : if Region.wanted o (yielded ops a.tmps) = true then Oper.wp P o a w K Q else E := by
  have hw : Region.wanted o (yielded ops a.tmps) = true := by simp [Region.wanted, hgd]
  rw [if_pos hw]
  unfold Oper.wp
  have e1 : (execOp a.eval o).run P w = .ok (.enter F #[v]) w := by
    have hf : a.eval (.func F) = .func (.func F) #[] #[] := rfl
    unfold execOp
    simp [ho, resolve, invoke, Deferred.ofValue, hx, hE, hf, Result.andThen]
  rw [e1, Oper.upon_enter]
  refine C.mono fun en w' hO => ?_
  have := h en w' hO
  cases en <;> exact this
/-- A function that is called as a value. -/
def Enters (F : Nat) : Prop := ∀ (args : Array Value) (w : World), (callFunc F args).run Try.prog w = .ok (.enter F args) w
/-- What a place to go to is told as. -/
def VTo (w0 : World) : World → MTo → Value → Prop := fun w' x v => ∃ a c b d, v = .agg #[.int .i64 x.block, .slice a x.regs.length c, .slice b x.args.length d] ∧ toL.In w' (fun g => w0.heap.size ≤ g) x [.int .i64 x.block, .slice a x.regs.length c, .slice b x.args.length d]
/-- What an instruction is told as. -/
def VIns (w0 : World) : World → MIns → Value → Prop := fun w' x v => ∃ a c b d, v = .agg #[.int .i64 x.op, .int .i64 x.a, .int .i64 x.b, .int .i64 x.c, .int .i64 x.k, .int .i64 x.n, .slice a x.regs.length c, .slice b x.args.length d] ∧ insL.In w' (fun g => w0.heap.size ≤ g) x [.int .i64 x.op, .int .i64 x.a, .int .i64 x.b, .int .i64 x.c, .int .i64 x.k, .int .i64 x.n, .slice a x.regs.length c, .slice b x.args.length d]
/-- What an end is told as. -/
def VEnd (w0 : World) : World → MEnd → Value → Prop := fun w' x v => ∃ a1 c1 a2 c2 a3 c3 a4 c4 a5 c5, v = .agg #[.int .i64 x.op, .int .i64 x.a, .int .i64 x.yes.block, .slice a1 x.yes.regs.length c1, .slice a2 x.yes.args.length c2, .int .i64 x.no.block, .slice a3 x.no.regs.length c3, .slice a4 x.no.args.length c4, .slice a5 x.args.length c5] ∧ endL.In w' (fun g => w0.heap.size ≤ g) x [.int .i64 x.op, .int .i64 x.a, .int .i64 x.yes.block, .slice a1 x.yes.regs.length c1, .slice a2 x.yes.args.length c2, .int .i64 x.no.block, .slice a3 x.no.regs.length c3, .slice a4 x.no.args.length c4, .slice a5 x.args.length c5]
/-- What a block is told as. -/
def VBlock (w0 : World) : World → MBlock 6 → Value → Prop := fun w' x v => ∃ q0 n0 q1 n1 q2 n2 q3 n3 q4 n4 q5 n5 q6 n6, v = .agg #[.int .i64 x.regs, .slice q0 x.params.length n0, .slice q1 x.code.length n1, .int .i64 x.fin.op, .int .i64 x.fin.a, .int .i64 x.fin.yes.block, .slice q2 x.fin.yes.regs.length n2, .slice q3 x.fin.yes.args.length n3, .int .i64 x.fin.no.block, .slice q4 x.fin.no.regs.length n4, .slice q5 x.fin.no.args.length n5, .slice q6 x.fin.args.length n6] ∧ (blockL 6).In w' (fun g => w0.heap.size ≤ g) x [.int .i64 x.regs, .slice q0 x.params.length n0, .slice q1 x.code.length n1, .int .i64 x.fin.op, .int .i64 x.fin.a, .int .i64 x.fin.yes.block, .slice q2 x.fin.yes.regs.length n2, .slice q3 x.fin.yes.args.length n3, .int .i64 x.fin.no.block, .slice q4 x.fin.no.regs.length n4, .slice q5 x.fin.no.args.length n5, .slice q6 x.fin.args.length n6]
/-- What a function is told as. -/
def VFunc (w0 : World) : World → MFunc 6 → Value → Prop := fun w' x v => ∃ q1 n1 q2 n2 q3 n3, v = .agg #[.int .i64 x.regs, .slice q1 x.params.length n1, .slice q2 x.results.length n2, .slice q3 x.blocks.length n3] ∧ (funcL 6).In w' (fun g => w0.heap.size ≤ g) x [.int .i64 x.regs, .slice q1 x.params.length n1, .slice q2 x.results.length n2, .slice q3 x.blocks.length n3]
/-- What a module is told as. -/
def VMod (w0 : World) : World → List (MFunc 6) → Value → Prop := fun w' m v => ∃ a c, v = .agg #[.slice a m.length c] ∧ (modL 6).In w' (fun g => w0.heap.size ≤ g) m [.slice a m.length c]
/-- A leaf. -/
theorem tt_leaf {w : World} {O : Nat → Prop} {n : Nat} {k r : Int} {a : Option Addr} {c : Nat} (hk : -9223372036854775808 ≤ k ∧ k ≤ 9223372036854775807) (hr : -9223372036854775808 ≤ r ∧ r ≤ 9223372036854775807) : (Lay.tt (n + 1)).In w O ((k, r, []) : TT (n + 1)) [.int .i64 k, .int .i64 r, .slice a 0 c] :=
  ⟨a, c, rfl, LIn.tree LIn.nil, hr, fun x h => by simp at h⟩
theorem tt_tree {w : World} {O : Nat → Prop} {n : Nat} {k r : Int} {ts : List (TT n)} {a : Option Addr} {c : Nat} (hk : -9223372036854775808 ≤ k ∧ k ≤ 9223372036854775807) (hr : -9223372036854775808 ≤ r ∧ r ≤ 9223372036854775807) (h : (typesL n).In w O ts [.slice a ts.length c]) : (Lay.tt (n + 1)).In w O ((k, r, ts) : TT (n + 1)) [.int .i64 k, .int .i64 r, .slice a ts.length c] :=
  ⟨a, c, rfl, LIn.tree (types_lin h).1, hr, (types_lin h).2⟩
end Go.Proofs.Ytcenkidhaoncgad
