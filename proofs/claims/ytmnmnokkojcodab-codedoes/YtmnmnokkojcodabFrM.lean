/-
  Steps over a row that the call has made: make, and the store of an element.
-/
import Derived.Test.YtmnmnokkojcodabCodFill
namespace Go.Proofs.Ytmnmnokkojcodab
open Go.ChangeShapes Go.WideShapes Go.ChangeAt Go.RowKit
set_option linter.unusedVariables false
section
variable {n : Nat} {a : Act} {L : List (Tmp × Value)} {w0 w : World} {Bs : List (Nat × Array Value × TypeId)} {Q : Exit → Act → World → Prop} {ops : Array Oper} {rest : List Oper} {t : Tmp} {u v : Value} {ty ty2 ty3 : TypeId} {pos : String} {aft : Array Edge} {gd : Option (Nat × Bool)} {x y : Operand}
/-- make. -/
theorem sMake {tS e : TypeId} {i : TypeInfo} {z : Value} {size m : Nat} (hu : Try.prog.underlying tS = some (.slice e)) (hi : Try.prog.info? e = some i) (hz : i.zero = some z) (hsz : i.size = size)
    (hby : i.bytes * m ≤ 281474976710656) (hm : m ≤ maxLen) (hW : Wd w0 w Bs) (hg : Gok ops n L gd) (hx : evalL L x = some (.int .i64 (m : Int))) (ht : Nat.blt t n = true)
    (k : ∀ w' g xs, w.heap.size = g → w'.ownsRow w.heap.size e size (.slice (some ⟨g, 0, none⟩) m m) m xs → Below w.heap.size w w' → Wd w0 w' Bs → St n ((t, .slice (some ⟨g, 0, none⟩) m m) :: L) ops Q rest w') :
    St n L ops Q (⟨some t, .makeSlice tS x x, ty, pos, aft, gd⟩ :: rest) w := fun a hF => by
  obtain ⟨w', hr, ho, hgr⟩ := run_make_full (P := Try.prog) w w.heap.size tS e i z size hu hi hz hsz .i64 .i64 m hby hm (Nat.le_refl _)
  have hb : Below w.heap.size w w' := (Below.refl _ w).grown hgr (Nat.le_refl _) (fun k hk => by cases hk)
  have e0 := hF.ev hx
  refine wpList_step fun K hK => ?_
  rw [if_pos (Gok.on (o := ⟨some t, .makeSlice tS x x, ty, pos, aft, gd⟩) hF hg)]
  have h9 := hK (a.put (some t) (.slice (some ⟨w.heap.size, 0, none⟩) m m)) w' (k w' _ _ rfl ho hb (hW.below hb) _ (hF.put ht))
  unfold Oper.wp
  simp [execOp, e0, hr, Result.andThen]
  exact h9
/-- The store of a struct into a row. -/
theorem sRow {g j : Nat} {c : Array Value} {bt : TypeId} {cells : List Value} (hW : Wd w0 w Bs) (hg : w0.heap.size ≤ g) (hne : ∀ (i : Nat) x, Bs[i]? = some x → x.1 ≠ g) (hB : Blk w g c bt)
    (hx : evalL L x = some (.pointer (some ⟨g, j, none⟩))) (hy : evalL L y = some (.agg cells.toArray)) (hi : (Try.prog.info? ty2).map (·.size) = some cells.length) (h1 : cells.all (·.oneCell') = true) (hs : j + cells.length ≤ c.size)
    (k : Wd w0 (w.setCells g j cells) Bs → St n L ops Q rest (w.setCells g j cells)) : St n L ops Q (⟨none, .store ty2 x y, ty, pos, aft, none⟩ :: rest) w := fun a hF => by
  have hW' : Wd w0 (w.setCells g j cells) Bs := ⟨below_setCells hg cells w w0 j hW.bel, fun i y hy => (setCells_other (hne i y hy) cells j w).trans (hW.blk i y hy), hW.new, hW.nd⟩
  refine fr_skip hF rfl rfl (fun K hK => ?_) (k hW' a hF)
  have e := hF.ev hx
  have e2 := hF.ev hy
  have := run_storeAt_mid (P := Try.prog) w g j ty2 cells.toArray (by simpa using thereOf hB j cells.length hs) (by simpa using hi) (by simpa using h1)
  unfold Oper.wp execOp
  simp only [e, e2, Sem.run_bind, this, Result.andThen_ok, Sem.run_pure]
  rw [Oper.upon_skip]; simpa [Act.put] using hK
end
end Go.Proofs.Ytmnmnokkojcodab
