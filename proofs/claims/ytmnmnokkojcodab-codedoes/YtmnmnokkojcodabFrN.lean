/-
  Steps that make memory, and stores that leave it as it is.
-/
import Derived.Test.YtmnmnokkojcodabFrQ
import Derived.Test.YtmnmnokkojcodabLay
namespace Go.Proofs.Ytmnmnokkojcodab
open Go.ChangeShapes Go.WideShapes Go.ChangeAt Go.RowKit
set_option linter.unusedVariables false

/-- But for one block all is as it was. -/
def Keep1 (B : Nat) (w w' : World) : Prop := ∀ k, k ≠ B → w'.heap[k]? = w.heap[k]?
theorem Lay.keep1 {α : Type} {A : Lay α} {w w' : World} {lo B : Nat} {x : α} {cs : List Value} (h : A.In w (fun g => lo ≤ g) x cs) (hk : Keep1 B w w') (hB : B < lo) : A.In w' (fun g => lo ≤ g) x cs :=
  A.keep (fun k hl _ => hk k (by omega)) (fun _ h _ => h) h
theorem keep1_setCells (w : World) (B j : Nat) (vs : List Value) : Keep1 B w (w.setCells B j vs) := fun k hk => setCells_other hk vs j w
section
variable {n : Nat} {a : Act} {L : List (Tmp × Value)} {w0 w : World} {Bs : List (Nat × Array Value × TypeId)} {Q : Exit → Act → World → Prop} {ops : Array Oper} {rest : List Oper} {t : Tmp} {u v : Value} {ty ty2 ty3 : TypeId} {pos : String} {aft : Array Edge} {gd : Option (Nat × Bool)} {x y : Operand}
/-- A store of a struct into a box. -/
theorem sTk (i : Nat) {B j : Nat} {c : Array Value} {bt : TypeId} {cells : List Value} (hW : Wd w0 w Bs)
    (hx : evalL L x = some (.pointer (some ⟨B, j, none⟩))) (hy : evalL L y = some (.agg cells.toArray)) (hi : (Try.prog.info? ty2).map (·.size) = some cells.length) (h1 : cells.all (·.oneCell') = true)
    (hb : Bs[i]? = some (B, c, bt)) (hs : Nat.ble (j + cells.length) c.size = true)
    (k : ∀ w', Keep1 B w w' → Wd w0 w' (Bs.set i (B, spliced c j cells, bt)) → St n L ops Q rest w') : St n L ops Q (⟨none, .store ty2 x y, ty, pos, aft, none⟩ :: rest) w := fun a hF => by
  have hn : j + cells.length ≤ c.size := by simpa [Nat.ble_eq] using hs
  refine fr_skip hF rfl rfl (fun K hK => ?_) (k (w.setCells B j cells) (keep1_setCells w B j cells) (hW.setAt i hb j cells hs rfl rfl) a hF)
  have e := hF.ev hx
  have e2 := hF.ev hy
  have := run_storeAt_mid (P := Try.prog) w B j ty2 cells.toArray (by simpa using thereOf (hW.get i hb) j cells.length hn) (by simpa using hi) (by simpa using h1)
  unfold Oper.wp execOp
  simp only [e, e2, Sem.run_bind, this, Result.andThen_ok, Sem.run_pure]
  rw [Oper.upon_skip]; simpa [Act.put] using hK
/-- A store of one cell into a box. -/
theorem s1k (i : Nat) {B j : Nat} {c : Array Value} {bt : TypeId} (hi : (Try.prog.info? ty2).map (·.size) = some 1) (hW : Wd w0 w Bs)
    (hx : evalL L x = some (.pointer (some ⟨B, j, none⟩))) (hy : evalL L y = some v) (hv : v.cells = #[v]) (h1 : v.oneCell' = true)
    (hb : Bs[i]? = some (B, c, bt)) (hs : Nat.ble (j + 1) c.size = true)
    (k : ∀ w', Keep1 B w w' → Wd w0 w' (Bs.set i (B, spliced c j [v], bt)) → St n L ops Q rest w') : St n L ops Q (⟨none, .store ty2 x y, ty, pos, aft, none⟩ :: rest) w := fun a hF => by
  have hn : j + 1 ≤ c.size := by simpa [Nat.ble_eq] using hs
  refine fr_skip hF rfl rfl (fun K hK => ?_) (k (w.setCells B j [v]) (keep1_setCells w B j [v]) (hW.setAt i hb j [v] hs rfl rfl) a hF)
  have e := hF.ev hx
  have e2 := hF.ev hy
  have ht := thereOf (hW.get i hb) j 1 hn
  have h2 := run_storeCells_cells (P := Try.prog) B j [v] 0 w (fun k hk => by simpa using (ht k (by simpa using hk)).1) (fun k hk => by simpa using (ht k (by simpa using hk)).2) (fun u hu => by simp at hu; subst hu; exact h1)
  have h3 : (Instr.storeAt ty2 (.pointer (some ⟨B, j, none⟩)) v).run Try.prog w = .ok () (w.setCells B j [v]) := by
    cases hq : Try.prog.info? ty2 with
    | none => simp [hq] at hi
    | some q =>
      have hs1 : q.size = 1 := by simpa [hq] using hi
      simp only [Nat.add_zero] at h2
      simp [Instr.storeAt, Instr.sureAddr, storeVar, sizeOf, typeInfo, hq, hv, hs1, h2]
  unfold Oper.wp execOp
  simp only [e, e2, Sem.run_bind, h3, Result.andThen_ok, Sem.run_pure]
  rw [Oper.upon_skip]; simpa [Act.put] using hK
/-- A call that makes memory: what it leaves is told by R. -/
theorem s_made {o : Oper} {f : FuncId} {args : Array Value} {R : Value → World → Prop} (hW : Wd w0 w Bs) (hg : Gok ops n L o.guard)
    (hc : Calls Try.prog f args w fun e w' => ∃ v, e = .returned v ∧ R v w' ∧ Below w.heap.size w w') (hd : o.dst = some t) (ht : Nat.blt t n = true)
    (h : ∀ ev : Operand → Value, (∀ x v, evalL L x = some v → ev x = v) → (execOp ev o).run Try.prog w = .ok (.enter f args) w)
    (k : ∀ v w', R v w' → Below w.heap.size w w' → Wd w0 w' Bs → St n ((t, v) :: L) ops Q rest w') : St n L ops Q (o :: rest) w := fun a hF =>
  wpList_step fun K hK => by
    rw [if_pos (hg.on hF)]
    unfold Oper.wp
    rw [h a.eval (fun x v e => hF.ev e), Oper.upon_enter]
    refine hc.mono ?_
    rintro e w9 ⟨v, rfl, hR, hb⟩
    rw [hd]
    exact hK _ _ (k _ _ hR hb (hW.below hb) _ (hF.put ht))
theorem sn_1 {f : FuncId} {ts : Array TypeId} {x0 : Operand} {v0 : Value} {R : Value → World → Prop} (hcf : CF f) (hW : Wd w0 w Bs) (hc : Calls Try.prog f #[v0] w fun e w' => ∃ v, e = .returned v ∧ R v w' ∧ Below w.heap.size w w') (hg : Gok ops n L gd) (h0 : evalL L x0 = some v0) (ht : Nat.blt t n = true)
    (k : ∀ v w', R v w' → Below w.heap.size w w' → Wd w0 w' Bs → St n ((t, v) :: L) ops Q rest w') : St n L ops Q (⟨some t, .call { callee := .value (.func f), args := #[x0], argTypes := ts }, ty, pos, aft, gd⟩ :: rest) w :=
  s_made hW hg hc rfl ht (fun ev hev => by have e0 := hev _ _ h0; have ef := hev (.func f) _ rfl; have ec := hcf; unfold CF at ec; simp [go_sem, ef, ec, e0]) k
theorem sn_2 {f : FuncId} {ts : Array TypeId} {x0 x1 : Operand} {v0 v1 : Value} {R : Value → World → Prop} (hcf : CF f) (hW : Wd w0 w Bs) (hc : Calls Try.prog f #[v0, v1] w fun e w' => ∃ v, e = .returned v ∧ R v w' ∧ Below w.heap.size w w') (hg : Gok ops n L gd) (h0 : evalL L x0 = some v0) (h1 : evalL L x1 = some v1) (ht : Nat.blt t n = true)
    (k : ∀ v w', R v w' → Below w.heap.size w w' → Wd w0 w' Bs → St n ((t, v) :: L) ops Q rest w') : St n L ops Q (⟨some t, .call { callee := .value (.func f), args := #[x0, x1], argTypes := ts }, ty, pos, aft, gd⟩ :: rest) w :=
  s_made hW hg hc rfl ht (fun ev hev => by have e0 := hev _ _ h0; have e1 := hev _ _ h1; have ef := hev (.func f) _ rfl; have ec := hcf; unfold CF at ec; simp [go_sem, ef, ec, e0, e1]) k
/-- .. of a function value. -/
theorem snv_1 {f : FuncId} {ts : Array TypeId} {xf x0 : Operand} {v0 : Value} {R : Value → World → Prop} (hcf : CF f) (hW : Wd w0 w Bs) (hc : Calls Try.prog f #[v0] w fun e w' => ∃ v, e = .returned v ∧ R v w' ∧ Below w.heap.size w w') (hg : Gok ops n L gd) (hf : evalL L xf = some (.func (.func f) #[] #[])) (h0 : evalL L x0 = some v0) (ht : Nat.blt t n = true)
    (k : ∀ v w', R v w' → Below w.heap.size w w' → Wd w0 w' Bs → St n ((t, v) :: L) ops Q rest w') : St n L ops Q (⟨some t, .call { callee := .value xf, args := #[x0], argTypes := ts }, ty, pos, aft, gd⟩ :: rest) w :=
  s_made hW hg hc rfl ht (fun ev hev => by have e0 := hev _ _ h0; have ef := hev _ _ hf; have ec := hcf; unfold CF at ec; simp [go_sem, ef, ec, e0]) k
end
end Go.Proofs.Ytmnmnokkojcodab
