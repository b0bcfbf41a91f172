/-
  Rows that are filled by and by, types as they lie, and what a list's owner starts and ends with.
-/
import Derived.Test.YtmnmnokkojcodabFrM
import Derived.Test.YtmnmnokkojcodabCodOwnT
import Derived.Test.YtmnmnokkojcodabTypOwnT
import Derived.Test.YtmnmnokkojcodabCodSame
namespace Go.Proofs.Ytmnmnokkojcodab
open Go.ChangeShapes Go.WideShapes Go.ChangeAt Go.RowKit
set_option linter.unusedVariables false
set_option linter.unusedSimpArgs false

structure TP where
  p : Option Addr
  c : Nat
structure YIn (w : World) (O : Nat → Prop) {n : Nat} (x : TT n) (i : TP) : Prop where
  tree : TIn w O x i.p
  ok : x.ok
section
variable {w w' : World} {O O' : Nat → Prop} {n : Nat} {x : TT n} {i : TP}
theorem YIn.keep (hb : ∀ k, O k → k < w.heap.size → w'.heap[k]? = w.heap[k]?) (hl : ∀ k, O k → k < w.heap.size → O' k) (h : YIn w O x i) : YIn w' O' x i := ⟨h.tree.keep hb hl, h.ok⟩
theorem YIn.below (h : YIn w O x i) (hbl : Below w.heap.size w w') : YIn w' O x i := h.keep (fun k _ hk => hbl.block k hk) (fun _ h _ => h)
theorem YIn.mono (h : YIn w O x i) (hl : ∀ k, O k → k < w.heap.size → O' k) : YIn w O' x i := h.keep (fun k _ _ => rfl) hl
theorem type_shut (h : YIn w O x i) : (Lay.tt n).In w O x [.int .i64 x.kind, .int .i64 x.r, .slice i.p x.len i.c] := ⟨i.p, i.c, rfl, h.tree, h.ok⟩
theorem type_at {l : List (TT n)} {p : Option Addr} {m c : Nat} (h : (Lay.tt n).list.In w O l [.slice p m c]) {q : Nat} (hx : l[q]? = some x) :
    ∃ (g o : Nat) (i : TP), p = some ⟨g, o, none⟩ ∧ w.rangeAt g (o + q * 3) [.int .i64 x.kind, .int .i64 x.r, .slice i.p x.len i.c] ∧ YIn w O x i := by
  obtain ⟨g, o, ds, e, h1, h2, h3, h4⟩ := Lay.list_at h hx
  obtain ⟨a, c, rfl, h5, h6⟩ := h4
  have hs : (Lay.tt n).size = 3 := rfl
  rw [hs] at h3
  exact ⟨g, o, ⟨a, c⟩, e, fun j v hj => (h3 j (by have := (List.getElem?_eq_some_iff.1 hj).1; simpa using this)).trans hj, h5, h6⟩
end

theorem Wd.of {w0 w : World} (b : Below w0.heap.size w0 w) : Wd w0 w [] := ⟨b, fun i x h => by simp at h, fun i x h => by simp at h, fun i j x y h => by simp at h⟩

section
variable {α : Type} {A : Lay α} {e : TypeId} {w w' : World} {lo g n q s : Nat} {l : List α} {xs : List Value} {x : α} {ds : List Value}
theorem ARow.start {m : Nat} (hs : A.size = s) (h : w.ownsRow lo e s (.slice (some ⟨g, 0, none⟩) m m) m xs) : ARow A e w lo (.slice (some ⟨g, 0, none⟩) 0 m) (l.take 0) [] := by
  subst hs
  obtain ⟨hl, h2⟩ := h
  rcases h2 with ⟨h', _⟩ | ⟨g', cap', cur, h', hb, hg, hnc, hcm, hcs, htake⟩
  · simp at h'
  · simp only [Value.slice.injEq, Option.some.injEq, Addr.mk.injEq, and_true, true_and] at h'
    obtain ⟨rfl, rfl⟩ := h'
    exact ⟨⟨by simp, .inr ⟨g, m, cur, rfl, hb, hg, Nat.zero_le _, hcm, hcs, by simp⟩⟩, fun i x h => by simp at h⟩
theorem ARow.blk (h : ARow A e w lo (.slice (some ⟨g, 0, none⟩) q n) l xs) (hs : A.size = s) : ∃ c, Blk w g c e ∧ c.size = n * s := by
  subst hs
  obtain ⟨hl, h2⟩ := h.own
  rcases h2 with ⟨h', _⟩ | ⟨g', cap', cur, h', hb, hg, hnc, hcm, hcs, htake⟩
  · simp at h'
  · simp only [Value.slice.injEq, Option.some.injEq, Addr.mk.injEq, and_true, true_and] at h'
    obtain ⟨rfl, -, rfl⟩ := h'
    exact ⟨cur, hg, hcs⟩
theorem ARow.fillq (h : ARow A e w lo (.slice (some ⟨g, 0, none⟩) q n) (l.take q) xs) (hs : A.size = s) (hq : q < l.length) (hn : l.length = n) (hx0 : l[q]? = some x) (hx : A.In w (fun k => lo ≤ k ∧ k ≠ g) x ds) (hw : w' = w.setCells g (0 + q * s) ds) :
    ∃ xs', ARow A e w' lo (.slice (some ⟨g, 0, none⟩) (q + 1) n) (l.take (q + 1)) xs' := by
  subst hs hw
  have hlq : (l.take q).length = q := by simp; omega
  have T : l.take (q + 1) = l.take q ++ [x] := by rw [List.take_add_one, hx0]; rfl
  have := ARow.fill (l := l.take q) (g := g) (n := n) (by rw [hlq]; exact h) hx (by omega)
  rw [hlq] at this
  rw [T, Nat.zero_add]
  exact ⟨_, this⟩
theorem ARow.done (h : ARow A e w lo (.slice (some ⟨g, 0, none⟩) q n) (l.take q) xs) (hq : q = l.length) : A.list.In w (From lo) l [.slice (some ⟨g, 0, none⟩) l.length n] := by
  have := h.lay
  subst hq
  rw [List.take_length] at this
  exact this
end
section
variable {n : Nat} {a : Act} {L : List (Tmp × Value)} {w0 w : World} {Bs : List (Nat × Array Value × TypeId)} {Q : Exit → Act → World → Prop} {ops : Array Oper} {rest : List Oper} {t : Tmp} {u v : Value} {ty ty2 ty3 : TypeId} {pos : String} {aft : Array Edge} {gd : Option (Nat × Bool)} {x y : Operand}
theorem sRowk {g j : Nat} {c : Array Value} {bt : TypeId} {cells : List Value} (hW : Wd w0 w Bs) (hg : w0.heap.size ≤ g) (hne : ∀ (i : Nat) x, Bs[i]? = some x → x.1 ≠ g) (hB : Blk w g c bt)
    (hx : evalL L x = some (.pointer (some ⟨g, j, none⟩))) (hy : evalL L y = some (.agg cells.toArray)) (hi : (Try.prog.info? ty2).map (·.size) = some cells.length) (h1 : cells.all (·.oneCell') = true) (hs : j + cells.length ≤ c.size)
    (k : ∀ w', Wd w0 w' Bs → w' = w.setCells g j cells → St n L ops Q rest w') : St n L ops Q (⟨none, .store ty2 x y, ty, pos, aft, none⟩ :: rest) w :=
  sRow hW hg hne hB hx hy hi h1 hs (fun h => k _ h rfl)
end
theorem underIns : Try.prog.underlying 75 = some (.slice 46) := by kernel_rfl
theorem underBlocks : Try.prog.underlying 48 = some (.slice 77) := by kernel_rfl
theorem underFuncs : Try.prog.underlying 37 = some (.slice 50) := by kernel_rfl
theorem parts_of {t : TypeId} {z : Value} {s b : Nat} (h : (Try.prog.info? t).map (fun i => (i.zero, i.size, i.bytes)) = some (some z, s, b)) : ∃ i, Try.prog.info? t = some i ∧ i.zero = some z ∧ i.size = s ∧ i.bytes = b := by
  obtain ⟨i, hi, e⟩ := Option.map_eq_some_iff.1 h
  simp only [Prod.mk.injEq] at e
  exact ⟨i, hi, e⟩
theorem infoIns : (Try.prog.info? 46).map (fun i => (i.zero, i.size, i.bytes)) = some (some (.agg #[.int .i64 0, .int .i64 0, .int .i64 0, .int .i64 0, .int .i64 0, .int .i64 0, .slice none 0 0, .slice none 0 0]), 8, 96) := by kernel_rfl
theorem infoBlock : (Try.prog.info? 77).map (fun i => (i.zero, i.size, i.bytes)) = some (some (.agg #[.int .i64 0, .slice none 0 0, .slice none 0 0, .int .i64 0, .int .i64 0, .int .i64 0, .slice none 0 0, .slice none 0 0, .int .i64 0, .slice none 0 0, .slice none 0 0, .slice none 0 0]), 12, 208) := by kernel_rfl
theorem infoFunc : (Try.prog.info? 50).map (fun i => (i.zero, i.size, i.bytes)) = some (some (.agg #[.int .i64 0, .slice none 0 0, .slice none 0 0, .slice none 0 0]), 4, 80) := by kernel_rfl
end Go.Proofs.Ytmnmnokkojcodab
