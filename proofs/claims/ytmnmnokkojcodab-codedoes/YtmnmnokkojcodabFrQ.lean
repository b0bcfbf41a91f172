/-
  The short steps of a walk: a lemma for each kind of operation, over whatever frame of which so much is known.
-/
import Derived.Test.YtmnmnokkojcodabFrW
import Derived.Deep.MidRow
namespace Go.Proofs.Ytmnmnokkojcodab
open Go.ChangeShapes Go.WideShapes Go.ChangeAt Go.RowKit
set_option linter.unusedVariables false
set_option linter.unusedSimpArgs false

/-- What an operand holds. -/
def evalL (L : List (Tmp × Value)) : Operand → Option Value
  | .tmp t => L.lookup t
  | .const v => some v
  | .func f => some (.func (.func f) #[] #[])
  | _ => none
/-- The operations l, whatever the frame of which L is known. -/
abbrev St (n : Nat) (L : List (Tmp × Value)) (ops : Array Oper) (Q : Exit → Act → World → Prop) (l : List Oper) (w : World) : Prop := ∀ a, Fr n a L → wpList Try.prog ops Q l a w
/-- A guard that lets by. -/
def Gok (ops : Array Oper) (n : Nat) (L : List (Tmp × Value)) : Option (Nat × Bool) → Prop
  | none => True
  | some (g, want) => ∃ tg, (ops[g]?).bind (fun o : Oper => o.dst) = some tg ∧ Nat.blt tg n = true ∧ L.lookup tg = some (.bool want)
section
variable {n : Nat} {a : Act} {L : List (Tmp × Value)} {w0 w : World} {Bs : List (Nat × Array Value × TypeId)} {Q : Exit → Act → World → Prop} {ops : Array Oper} {rest : List Oper} {t : Tmp} {u v : Value} {ty ty2 ty3 : TypeId} {pos : String} {aft : Array Edge} {gd : Option (Nat × Bool)} {x y z : Operand} {g tg : Nat} {want b : Bool}
theorem Fr.ev (h : Fr n a L) (e : evalL L x = some v) : a.eval x = v := by
  cases x <;> simp only [evalL, Option.some.injEq, reduceCtorEq] at e
  · exact h.sl _ _ e
  · exact e
  · subst e; rfl
theorem Gok.on {o : Oper} (hF : Fr n a L) (h : Gok ops n L o.guard) : Region.wanted o (yielded ops a.tmps) = true := by
  cases hg : o.guard with
  | none => simp [Region.wanted, hg]
  | some p =>
    obtain ⟨g, want⟩ := p
    rw [hg] at h
    obtain ⟨tg, h1, h2, h3⟩ := h
    rw [wanted_g hF hg h1 h2 h3]; simp
theorem St.go {l : List Oper} (hF : Fr n a L) (h : St n L ops Q l w) : wpList Try.prog ops Q l a w := h a hF
theorem St.nil (h : ∀ a, Fr n a L → Q .normal a w) : St n L ops Q [] w := h
theorem s_step {o : Oper} (hg : Gok ops n L o.guard) (hd : o.dst = some t) (ht : Nat.blt t n = true)
    (h : ∀ ev : Operand → Value, (∀ x v, evalL L x = some v → ev x = v) → (execOp ev o).run Try.prog w = .ok (.value v) w)
    (k : St n ((t, v) :: L) ops Q rest w) : St n L ops Q (o :: rest) w := fun a hF =>
  wpList_step fun K hK => by
    rw [if_pos (hg.on hF)]
    unfold Oper.wp
    rw [h a.eval (fun x v e => hF.ev e), Oper.upon_value, hd]
    exact hK _ _ (k _ (hF.put ht))
theorem so {op : Op} (hs : (ops[g]?).bind (fun o : Oper => o.dst) = some tg) (htg : Nat.blt tg n = true) (hv : L.lookup tg = some u) (hu : (match u with | .bool b => b == want | _ => false) = false) (ht : Nat.blt t n = true)
    (k : St n ((t, undef) :: L) ops Q rest w) : St n L ops Q (⟨some t, op, ty, pos, aft, some (g, want)⟩ :: rest) w := fun a hF =>
  fr_off hF rfl rfl hs htg hv hu ht k
theorem sm (hg : Gok ops n L gd) (hx : evalL L x = some (v)) (ht : Nat.blt t n = true)
    (k : St n ((t, v) :: L) ops Q rest w) : St n L ops Q (⟨some t, .move x, ty, pos, aft, gd⟩ :: rest) w :=
  s_step hg rfl ht (fun ev hev => by have e := hev _ _ hx; simp [go_sem, e]) k
theorem sa (hg : Gok ops n L gd) (hx : evalL L x = some (v)) (ht : Nat.blt t n = true)
    (k : St n ((t, v) :: L) ops Q rest w) : St n L ops Q (⟨some t, .assign x, ty, pos, aft, gd⟩ :: rest) w :=
  s_step hg rfl ht (fun ev hev => by have e := hev _ _ hx; simp [go_sem, e]) k
theorem sn (hg : Gok ops n L gd) (hx : evalL L x = some (.bool b)) (ht : Nat.blt t n = true)
    (k : St n ((t, .bool (!b)) :: L) ops Q rest w) : St n L ops Q (⟨some t, .unOp .not ty2 x, ty, pos, aft, gd⟩ :: rest) w :=
  s_step hg rfl ht (fun ev hev => by have e := hev _ _ hx; simp [go_sem, e]) k
theorem sp (hg : Gok ops n L gd) (hx : evalL L x = some (.bool true)) (hy : evalL L y = some (v)) (ht : Nat.blt t n = true)
    (k : St n ((t, v) :: L) ops Q rest w) : St n L ops Q (⟨some t, .pick x y z, ty, pos, aft, gd⟩ :: rest) w :=
  s_step hg rfl ht (fun ev hev => by have e := hev _ _ hx; have e2 := hev _ _ hy; simp [go_sem, e, e2]) k
theorem spf (hg : Gok ops n L gd) (hx : evalL L x = some (.bool false)) (hz : evalL L z = some (v)) (ht : Nat.blt t n = true)
    (k : St n ((t, v) :: L) ops Q rest w) : St n L ops Q (⟨some t, .pick x y z, ty, pos, aft, gd⟩ :: rest) w :=
  s_step hg rfl ht (fun ev hev => by have e := hev _ _ hx; have e2 := hev _ _ hz; simp [go_sem, e, e2]) k
theorem seq {p q : Int} (hg : Gok ops n L gd) (hx : evalL L x = some (.int .i64 p)) (hy : evalL L y = some (.int .i64 q)) (ht : Nat.blt t n = true)
    (k : St n ((t, .bool (p == q)) :: L) ops Q rest w) : St n L ops Q (⟨some t, .binOp .eql 3 x y 3, ty, pos, aft, gd⟩ :: rest) w :=
  s_step hg rfl ht (fun ev hev => by have e := hev _ _ hx; have e2 := hev _ _ hy; simp [go_sem, e, e2]) k
theorem sne {p q : Int} (hg : Gok ops n L gd) (hx : evalL L x = some (.int .i64 p)) (hy : evalL L y = some (.int .i64 q)) (ht : Nat.blt t n = true)
    (k : St n ((t, .bool (p != q)) :: L) ops Q rest w) : St n L ops Q (⟨some t, .binOp .neq 3 x y 3, ty, pos, aft, gd⟩ :: rest) w :=
  s_step hg rfl ht (fun ev hev => by have e := hev _ _ hx; have e2 := hev _ _ hy; simp [go_sem, e, e2]) k
theorem slt {p q : Int} (hg : Gok ops n L gd) (hx : evalL L x = some (.int .i64 p)) (hy : evalL L y = some (.int .i64 q)) (ht : Nat.blt t n = true)
    (k : St n ((t, .bool (decide (p < q))) :: L) ops Q rest w) : St n L ops Q (⟨some t, .binOp .lss 3 x y 3, ty, pos, aft, gd⟩ :: rest) w :=
  s_step hg rfl ht (fun ev hev => by have e := hev _ _ hx; have e2 := hev _ _ hy; simp [go_sem, e, e2]) k
theorem sgt {p q : Int} (hg : Gok ops n L gd) (hx : evalL L x = some (.int .i64 p)) (hy : evalL L y = some (.int .i64 q)) (ht : Nat.blt t n = true)
    (k : St n ((t, .bool (decide (q < p))) :: L) ops Q rest w) : St n L ops Q (⟨some t, .binOp .gtr 3 x y 3, ty, pos, aft, gd⟩ :: rest) w :=
  s_step hg rfl ht (fun ev hev => by have e := hev _ _ hx; have e2 := hev _ _ hy; simp [go_sem, e, e2]) k
theorem sge {p q : Int} (hg : Gok ops n L gd) (hx : evalL L x = some (.int .i64 p)) (hy : evalL L y = some (.int .i64 q)) (ht : Nat.blt t n = true)
    (k : St n ((t, .bool (decide (q ≤ p))) :: L) ops Q rest w) : St n L ops Q (⟨some t, .binOp .geq 3 x y 3, ty, pos, aft, gd⟩ :: rest) w :=
  s_step hg rfl ht (fun ev hev => by have e := hev _ _ hx; have e2 := hev _ _ hy; simp [go_sem, e, e2]) k
theorem sle {p q : Int} (hg : Gok ops n L gd) (hx : evalL L x = some (.int .i64 p)) (hy : evalL L y = some (.int .i64 q)) (ht : Nat.blt t n = true)
    (k : St n ((t, .bool (decide (p ≤ q))) :: L) ops Q rest w) : St n L ops Q (⟨some t, .binOp .leq 3 x y 3, ty, pos, aft, gd⟩ :: rest) w :=
  s_step hg rfl ht (fun ev hev => by have e := hev _ _ hx; have e2 := hev _ _ hy; simp [go_sem, e, e2]) k
theorem seq6 {p q : Int} (hg : Gok ops n L gd) (hx : evalL L x = some (.int .i64 p)) (hy : evalL L y = some (.int .i64 q)) (ht : Nat.blt t n = true)
    (k : St n ((t, .bool (p == q)) :: L) ops Q rest w) : St n L ops Q (⟨some t, .binOp .eql 2 x y 2, ty, pos, aft, gd⟩ :: rest) w :=
  s_step hg rfl ht (fun ev hev => by have e := hev _ _ hx; have e2 := hev _ _ hy; simp [go_sem, e, e2]) k
theorem sne6 {p q : Int} (hg : Gok ops n L gd) (hx : evalL L x = some (.int .i64 p)) (hy : evalL L y = some (.int .i64 q)) (ht : Nat.blt t n = true)
    (k : St n ((t, .bool (p != q)) :: L) ops Q rest w) : St n L ops Q (⟨some t, .binOp .neq 2 x y 2, ty, pos, aft, gd⟩ :: rest) w :=
  s_step hg rfl ht (fun ev hev => by have e := hev _ _ hx; have e2 := hev _ _ hy; simp [go_sem, e, e2]) k
theorem sad {q : Nat} (hq : q < 4611686018427387904) (hg : Gok ops n L gd) (hx : evalL L x = some (.int .i64 (q : Int))) (hy : evalL L y = some (.int .i64 1)) (ht : Nat.blt t n = true)
    (k : St n ((t, .int .i64 ((q : Int) + 1)) :: L) ops Q rest w) : St n L ops Q (⟨some t, .binOp .add 3 x y 3, ty, pos, aft, gd⟩ :: rest) w :=
  s_step hg rfl ht (fun ev hev => by have e := hev _ _ hx; have e2 := hev _ _ hy; have e3 := wrap_succ q hq; simp [go_sem, e, e2, e3]) k
theorem slInts {p : Option Addr} {m c : Nat} (hg : Gok ops n L gd) (hx : evalL L x = some (.slice p m c)) (ht : Nat.blt t n = true)
    (k : St n ((t, .int .i64 (m : Int)) :: L) ops Q rest w) : St n L ops Q (⟨some t, .call { callee := .builtin .len, args := #[x], argTypes := #[44] }, 3, pos, aft, gd⟩ :: rest) w :=
  s_step hg rfl ht (fun ev hev => by have e := hev _ _ hx; simp [go_sem, e]) k
theorem siInts {p : Option Addr} {m c q B j : Nat} (hp : p = some ⟨B, j, none⟩) (hq : q < m) (hg : Gok ops n L gd) (hx : evalL L x = some (.slice p m c)) (hy : evalL L y = some (.int .i64 (q : Int))) (ht : Nat.blt t n = true)
    (k : St n ((t, .pointer (some ⟨B, j + q, none⟩)) :: L) ops Q rest w) : St n L ops Q (⟨some t, .indexAddr 44 x y, ty, pos, aft, gd⟩ :: rest) w :=
  s_step hg rfl ht (fun ev hev => by have e := hev _ _ hx; have e2 := hev _ _ hy; have h0 := Int.natCast_nonneg q; have h1 := Int.ofNat_lt.2 hq; subst hp; simp [go_sem, e, e2, h0, h1, hq]) k
theorem slTypes {p : Option Addr} {m c : Nat} (hg : Gok ops n L gd) (hx : evalL L x = some (.slice p m c)) (ht : Nat.blt t n = true)
    (k : St n ((t, .int .i64 (m : Int)) :: L) ops Q rest w) : St n L ops Q (⟨some t, .call { callee := .builtin .len, args := #[x], argTypes := #[47] }, 3, pos, aft, gd⟩ :: rest) w :=
  s_step hg rfl ht (fun ev hev => by have e := hev _ _ hx; simp [go_sem, e]) k
theorem siTypes {p : Option Addr} {m c q B j : Nat} (hp : p = some ⟨B, j, none⟩) (hq : q < m) (hg : Gok ops n L gd) (hx : evalL L x = some (.slice p m c)) (hy : evalL L y = some (.int .i64 (q : Int))) (ht : Nat.blt t n = true)
    (k : St n ((t, .pointer (some ⟨B, j + q * 3, none⟩)) :: L) ops Q rest w) : St n L ops Q (⟨some t, .indexAddr 47 x y, ty, pos, aft, gd⟩ :: rest) w :=
  s_step hg rfl ht (fun ev hev => by have e := hev _ _ hx; have e2 := hev _ _ hy; have h0 := Int.natCast_nonneg q; have h1 := Int.ofNat_lt.2 hq; subst hp; simp [go_sem, e, e2, h0, h1, hq]) k
theorem slInss {p : Option Addr} {m c : Nat} (hg : Gok ops n L gd) (hx : evalL L x = some (.slice p m c)) (ht : Nat.blt t n = true)
    (k : St n ((t, .int .i64 (m : Int)) :: L) ops Q rest w) : St n L ops Q (⟨some t, .call { callee := .builtin .len, args := #[x], argTypes := #[75] }, 3, pos, aft, gd⟩ :: rest) w :=
  s_step hg rfl ht (fun ev hev => by have e := hev _ _ hx; simp [go_sem, e]) k
theorem siInss {p : Option Addr} {m c q B j : Nat} (hp : p = some ⟨B, j, none⟩) (hq : q < m) (hg : Gok ops n L gd) (hx : evalL L x = some (.slice p m c)) (hy : evalL L y = some (.int .i64 (q : Int))) (ht : Nat.blt t n = true)
    (k : St n ((t, .pointer (some ⟨B, j + q * 8, none⟩)) :: L) ops Q rest w) : St n L ops Q (⟨some t, .indexAddr 75 x y, ty, pos, aft, gd⟩ :: rest) w :=
  s_step hg rfl ht (fun ev hev => by have e := hev _ _ hx; have e2 := hev _ _ hy; have h0 := Int.natCast_nonneg q; have h1 := Int.ofNat_lt.2 hq; subst hp; simp [go_sem, e, e2, h0, h1, hq]) k
theorem slBlocks {p : Option Addr} {m c : Nat} (hg : Gok ops n L gd) (hx : evalL L x = some (.slice p m c)) (ht : Nat.blt t n = true)
    (k : St n ((t, .int .i64 (m : Int)) :: L) ops Q rest w) : St n L ops Q (⟨some t, .call { callee := .builtin .len, args := #[x], argTypes := #[48] }, 3, pos, aft, gd⟩ :: rest) w :=
  s_step hg rfl ht (fun ev hev => by have e := hev _ _ hx; simp [go_sem, e]) k
theorem siBlocks {p : Option Addr} {m c q B j : Nat} (hp : p = some ⟨B, j, none⟩) (hq : q < m) (hg : Gok ops n L gd) (hx : evalL L x = some (.slice p m c)) (hy : evalL L y = some (.int .i64 (q : Int))) (ht : Nat.blt t n = true)
    (k : St n ((t, .pointer (some ⟨B, j + q * 12, none⟩)) :: L) ops Q rest w) : St n L ops Q (⟨some t, .indexAddr 48 x y, ty, pos, aft, gd⟩ :: rest) w :=
  s_step hg rfl ht (fun ev hev => by have e := hev _ _ hx; have e2 := hev _ _ hy; have h0 := Int.natCast_nonneg q; have h1 := Int.ofNat_lt.2 hq; subst hp; simp [go_sem, e, e2, h0, h1, hq]) k
theorem slFuncs {p : Option Addr} {m c : Nat} (hg : Gok ops n L gd) (hx : evalL L x = some (.slice p m c)) (ht : Nat.blt t n = true)
    (k : St n ((t, .int .i64 (m : Int)) :: L) ops Q rest w) : St n L ops Q (⟨some t, .call { callee := .builtin .len, args := #[x], argTypes := #[37] }, 3, pos, aft, gd⟩ :: rest) w :=
  s_step hg rfl ht (fun ev hev => by have e := hev _ _ hx; simp [go_sem, e]) k
theorem siFuncs {p : Option Addr} {m c q B j : Nat} (hp : p = some ⟨B, j, none⟩) (hq : q < m) (hg : Gok ops n L gd) (hx : evalL L x = some (.slice p m c)) (hy : evalL L y = some (.int .i64 (q : Int))) (ht : Nat.blt t n = true)
    (k : St n ((t, .pointer (some ⟨B, j + q * 4, none⟩)) :: L) ops Q rest w) : St n L ops Q (⟨some t, .indexAddr 37 x y, ty, pos, aft, gd⟩ :: rest) w :=
  s_step hg rfl ht (fun ev hev => by have e := hev _ _ hx; have e2 := hev _ _ hy; have h0 := Int.natCast_nonneg q; have h1 := Int.ofNat_lt.2 hq; subst hp; simp [go_sem, e, e2, h0, h1, hq]) k
theorem sfType0 {B j : Nat} (hg : Gok ops n L gd) (hx : evalL L x = some (.pointer (some ⟨B, j, none⟩))) (ht : Nat.blt t n = true)
    (k : St n ((t, .pointer (some ⟨B, j, none⟩)) :: L) ops Q rest w) : St n L ops Q (⟨some t, .fieldAddr 90 x 0, ty, pos, aft, gd⟩ :: rest) w :=
  s_step hg rfl ht (fun ev hev => by have e := hev _ _ hx; simp [go_sem, e]) k
theorem sfType1 {B j : Nat} (hg : Gok ops n L gd) (hx : evalL L x = some (.pointer (some ⟨B, j, none⟩))) (ht : Nat.blt t n = true)
    (k : St n ((t, .pointer (some ⟨B, j + 1, none⟩)) :: L) ops Q rest w) : St n L ops Q (⟨some t, .fieldAddr 90 x 1, ty, pos, aft, gd⟩ :: rest) w :=
  s_step hg rfl ht (fun ev hev => by have e := hev _ _ hx; simp [go_sem, e]) k
theorem sfType2 {B j : Nat} (hg : Gok ops n L gd) (hx : evalL L x = some (.pointer (some ⟨B, j, none⟩))) (ht : Nat.blt t n = true)
    (k : St n ((t, .pointer (some ⟨B, j + 2, none⟩)) :: L) ops Q rest w) : St n L ops Q (⟨some t, .fieldAddr 90 x 2, ty, pos, aft, gd⟩ :: rest) w :=
  s_step hg rfl ht (fun ev hev => by have e := hev _ _ hx; simp [go_sem, e]) k
theorem sfIns0 {B j : Nat} (hg : Gok ops n L gd) (hx : evalL L x = some (.pointer (some ⟨B, j, none⟩))) (ht : Nat.blt t n = true)
    (k : St n ((t, .pointer (some ⟨B, j, none⟩)) :: L) ops Q rest w) : St n L ops Q (⟨some t, .fieldAddr 46 x 0, ty, pos, aft, gd⟩ :: rest) w :=
  s_step hg rfl ht (fun ev hev => by have e := hev _ _ hx; simp [go_sem, e]) k
theorem sfIns1 {B j : Nat} (hg : Gok ops n L gd) (hx : evalL L x = some (.pointer (some ⟨B, j, none⟩))) (ht : Nat.blt t n = true)
    (k : St n ((t, .pointer (some ⟨B, j + 1, none⟩)) :: L) ops Q rest w) : St n L ops Q (⟨some t, .fieldAddr 46 x 1, ty, pos, aft, gd⟩ :: rest) w :=
  s_step hg rfl ht (fun ev hev => by have e := hev _ _ hx; simp [go_sem, e]) k
theorem sfIns2 {B j : Nat} (hg : Gok ops n L gd) (hx : evalL L x = some (.pointer (some ⟨B, j, none⟩))) (ht : Nat.blt t n = true)
    (k : St n ((t, .pointer (some ⟨B, j + 2, none⟩)) :: L) ops Q rest w) : St n L ops Q (⟨some t, .fieldAddr 46 x 2, ty, pos, aft, gd⟩ :: rest) w :=
  s_step hg rfl ht (fun ev hev => by have e := hev _ _ hx; simp [go_sem, e]) k
theorem sfIns3 {B j : Nat} (hg : Gok ops n L gd) (hx : evalL L x = some (.pointer (some ⟨B, j, none⟩))) (ht : Nat.blt t n = true)
    (k : St n ((t, .pointer (some ⟨B, j + 3, none⟩)) :: L) ops Q rest w) : St n L ops Q (⟨some t, .fieldAddr 46 x 3, ty, pos, aft, gd⟩ :: rest) w :=
  s_step hg rfl ht (fun ev hev => by have e := hev _ _ hx; simp [go_sem, e]) k
theorem sfIns4 {B j : Nat} (hg : Gok ops n L gd) (hx : evalL L x = some (.pointer (some ⟨B, j, none⟩))) (ht : Nat.blt t n = true)
    (k : St n ((t, .pointer (some ⟨B, j + 4, none⟩)) :: L) ops Q rest w) : St n L ops Q (⟨some t, .fieldAddr 46 x 4, ty, pos, aft, gd⟩ :: rest) w :=
  s_step hg rfl ht (fun ev hev => by have e := hev _ _ hx; simp [go_sem, e]) k
theorem sfIns5 {B j : Nat} (hg : Gok ops n L gd) (hx : evalL L x = some (.pointer (some ⟨B, j, none⟩))) (ht : Nat.blt t n = true)
    (k : St n ((t, .pointer (some ⟨B, j + 5, none⟩)) :: L) ops Q rest w) : St n L ops Q (⟨some t, .fieldAddr 46 x 5, ty, pos, aft, gd⟩ :: rest) w :=
  s_step hg rfl ht (fun ev hev => by have e := hev _ _ hx; simp [go_sem, e]) k
theorem sfIns6 {B j : Nat} (hg : Gok ops n L gd) (hx : evalL L x = some (.pointer (some ⟨B, j, none⟩))) (ht : Nat.blt t n = true)
    (k : St n ((t, .pointer (some ⟨B, j + 6, none⟩)) :: L) ops Q rest w) : St n L ops Q (⟨some t, .fieldAddr 46 x 6, ty, pos, aft, gd⟩ :: rest) w :=
  s_step hg rfl ht (fun ev hev => by have e := hev _ _ hx; simp [go_sem, e]) k
theorem sfIns7 {B j : Nat} (hg : Gok ops n L gd) (hx : evalL L x = some (.pointer (some ⟨B, j, none⟩))) (ht : Nat.blt t n = true)
    (k : St n ((t, .pointer (some ⟨B, j + 7, none⟩)) :: L) ops Q rest w) : St n L ops Q (⟨some t, .fieldAddr 46 x 7, ty, pos, aft, gd⟩ :: rest) w :=
  s_step hg rfl ht (fun ev hev => by have e := hev _ _ hx; simp [go_sem, e]) k
theorem sfTo0 {B j : Nat} (hg : Gok ops n L gd) (hx : evalL L x = some (.pointer (some ⟨B, j, none⟩))) (ht : Nat.blt t n = true)
    (k : St n ((t, .pointer (some ⟨B, j, none⟩)) :: L) ops Q rest w) : St n L ops Q (⟨some t, .fieldAddr 52 x 0, ty, pos, aft, gd⟩ :: rest) w :=
  s_step hg rfl ht (fun ev hev => by have e := hev _ _ hx; simp [go_sem, e]) k
theorem sfTo1 {B j : Nat} (hg : Gok ops n L gd) (hx : evalL L x = some (.pointer (some ⟨B, j, none⟩))) (ht : Nat.blt t n = true)
    (k : St n ((t, .pointer (some ⟨B, j + 1, none⟩)) :: L) ops Q rest w) : St n L ops Q (⟨some t, .fieldAddr 52 x 1, ty, pos, aft, gd⟩ :: rest) w :=
  s_step hg rfl ht (fun ev hev => by have e := hev _ _ hx; simp [go_sem, e]) k
theorem sfTo2 {B j : Nat} (hg : Gok ops n L gd) (hx : evalL L x = some (.pointer (some ⟨B, j, none⟩))) (ht : Nat.blt t n = true)
    (k : St n ((t, .pointer (some ⟨B, j + 2, none⟩)) :: L) ops Q rest w) : St n L ops Q (⟨some t, .fieldAddr 52 x 2, ty, pos, aft, gd⟩ :: rest) w :=
  s_step hg rfl ht (fun ev hev => by have e := hev _ _ hx; simp [go_sem, e]) k
theorem sfEnd0 {B j : Nat} (hg : Gok ops n L gd) (hx : evalL L x = some (.pointer (some ⟨B, j, none⟩))) (ht : Nat.blt t n = true)
    (k : St n ((t, .pointer (some ⟨B, j, none⟩)) :: L) ops Q rest w) : St n L ops Q (⟨some t, .fieldAddr 54 x 0, ty, pos, aft, gd⟩ :: rest) w :=
  s_step hg rfl ht (fun ev hev => by have e := hev _ _ hx; simp [go_sem, e]) k
theorem sfEnd1 {B j : Nat} (hg : Gok ops n L gd) (hx : evalL L x = some (.pointer (some ⟨B, j, none⟩))) (ht : Nat.blt t n = true)
    (k : St n ((t, .pointer (some ⟨B, j + 1, none⟩)) :: L) ops Q rest w) : St n L ops Q (⟨some t, .fieldAddr 54 x 1, ty, pos, aft, gd⟩ :: rest) w :=
  s_step hg rfl ht (fun ev hev => by have e := hev _ _ hx; simp [go_sem, e]) k
theorem sfEnd2 {B j : Nat} (hg : Gok ops n L gd) (hx : evalL L x = some (.pointer (some ⟨B, j, none⟩))) (ht : Nat.blt t n = true)
    (k : St n ((t, .pointer (some ⟨B, j + 2, none⟩)) :: L) ops Q rest w) : St n L ops Q (⟨some t, .fieldAddr 54 x 2, ty, pos, aft, gd⟩ :: rest) w :=
  s_step hg rfl ht (fun ev hev => by have e := hev _ _ hx; simp [go_sem, e]) k
theorem sfEnd3 {B j : Nat} (hg : Gok ops n L gd) (hx : evalL L x = some (.pointer (some ⟨B, j, none⟩))) (ht : Nat.blt t n = true)
    (k : St n ((t, .pointer (some ⟨B, j + 5, none⟩)) :: L) ops Q rest w) : St n L ops Q (⟨some t, .fieldAddr 54 x 3, ty, pos, aft, gd⟩ :: rest) w :=
  s_step hg rfl ht (fun ev hev => by have e := hev _ _ hx; simp [go_sem, e]) k
theorem sfEnd4 {B j : Nat} (hg : Gok ops n L gd) (hx : evalL L x = some (.pointer (some ⟨B, j, none⟩))) (ht : Nat.blt t n = true)
    (k : St n ((t, .pointer (some ⟨B, j + 8, none⟩)) :: L) ops Q rest w) : St n L ops Q (⟨some t, .fieldAddr 54 x 4, ty, pos, aft, gd⟩ :: rest) w :=
  s_step hg rfl ht (fun ev hev => by have e := hev _ _ hx; simp [go_sem, e]) k
theorem sfBlock0 {B j : Nat} (hg : Gok ops n L gd) (hx : evalL L x = some (.pointer (some ⟨B, j, none⟩))) (ht : Nat.blt t n = true)
    (k : St n ((t, .pointer (some ⟨B, j, none⟩)) :: L) ops Q rest w) : St n L ops Q (⟨some t, .fieldAddr 77 x 0, ty, pos, aft, gd⟩ :: rest) w :=
  s_step hg rfl ht (fun ev hev => by have e := hev _ _ hx; simp [go_sem, e]) k
theorem sfBlock1 {B j : Nat} (hg : Gok ops n L gd) (hx : evalL L x = some (.pointer (some ⟨B, j, none⟩))) (ht : Nat.blt t n = true)
    (k : St n ((t, .pointer (some ⟨B, j + 1, none⟩)) :: L) ops Q rest w) : St n L ops Q (⟨some t, .fieldAddr 77 x 1, ty, pos, aft, gd⟩ :: rest) w :=
  s_step hg rfl ht (fun ev hev => by have e := hev _ _ hx; simp [go_sem, e]) k
theorem sfBlock2 {B j : Nat} (hg : Gok ops n L gd) (hx : evalL L x = some (.pointer (some ⟨B, j, none⟩))) (ht : Nat.blt t n = true)
    (k : St n ((t, .pointer (some ⟨B, j + 2, none⟩)) :: L) ops Q rest w) : St n L ops Q (⟨some t, .fieldAddr 77 x 2, ty, pos, aft, gd⟩ :: rest) w :=
  s_step hg rfl ht (fun ev hev => by have e := hev _ _ hx; simp [go_sem, e]) k
theorem sfBlock3 {B j : Nat} (hg : Gok ops n L gd) (hx : evalL L x = some (.pointer (some ⟨B, j, none⟩))) (ht : Nat.blt t n = true)
    (k : St n ((t, .pointer (some ⟨B, j + 3, none⟩)) :: L) ops Q rest w) : St n L ops Q (⟨some t, .fieldAddr 77 x 3, ty, pos, aft, gd⟩ :: rest) w :=
  s_step hg rfl ht (fun ev hev => by have e := hev _ _ hx; simp [go_sem, e]) k
theorem sfFunc0 {B j : Nat} (hg : Gok ops n L gd) (hx : evalL L x = some (.pointer (some ⟨B, j, none⟩))) (ht : Nat.blt t n = true)
    (k : St n ((t, .pointer (some ⟨B, j, none⟩)) :: L) ops Q rest w) : St n L ops Q (⟨some t, .fieldAddr 50 x 0, ty, pos, aft, gd⟩ :: rest) w :=
  s_step hg rfl ht (fun ev hev => by have e := hev _ _ hx; simp [go_sem, e]) k
theorem sfFunc1 {B j : Nat} (hg : Gok ops n L gd) (hx : evalL L x = some (.pointer (some ⟨B, j, none⟩))) (ht : Nat.blt t n = true)
    (k : St n ((t, .pointer (some ⟨B, j + 1, none⟩)) :: L) ops Q rest w) : St n L ops Q (⟨some t, .fieldAddr 50 x 1, ty, pos, aft, gd⟩ :: rest) w :=
  s_step hg rfl ht (fun ev hev => by have e := hev _ _ hx; simp [go_sem, e]) k
theorem sfFunc2 {B j : Nat} (hg : Gok ops n L gd) (hx : evalL L x = some (.pointer (some ⟨B, j, none⟩))) (ht : Nat.blt t n = true)
    (k : St n ((t, .pointer (some ⟨B, j + 2, none⟩)) :: L) ops Q rest w) : St n L ops Q (⟨some t, .fieldAddr 50 x 2, ty, pos, aft, gd⟩ :: rest) w :=
  s_step hg rfl ht (fun ev hev => by have e := hev _ _ hx; simp [go_sem, e]) k
theorem sfFunc3 {B j : Nat} (hg : Gok ops n L gd) (hx : evalL L x = some (.pointer (some ⟨B, j, none⟩))) (ht : Nat.blt t n = true)
    (k : St n ((t, .pointer (some ⟨B, j + 3, none⟩)) :: L) ops Q rest w) : St n L ops Q (⟨some t, .fieldAddr 50 x 3, ty, pos, aft, gd⟩ :: rest) w :=
  s_step hg rfl ht (fun ev hev => by have e := hev _ _ hx; simp [go_sem, e]) k
theorem sfModule0 {B j : Nat} (hg : Gok ops n L gd) (hx : evalL L x = some (.pointer (some ⟨B, j, none⟩))) (ht : Nat.blt t n = true)
    (k : St n ((t, .pointer (some ⟨B, j, none⟩)) :: L) ops Q rest w) : St n L ops Q (⟨some t, .fieldAddr 39 x 0, ty, pos, aft, gd⟩ :: rest) w :=
  s_step hg rfl ht (fun ev hev => by have e := hev _ _ hx; simp [go_sem, e]) k
theorem sfFault0 {B j : Nat} (hg : Gok ops n L gd) (hx : evalL L x = some (.pointer (some ⟨B, j, none⟩))) (ht : Nat.blt t n = true)
    (k : St n ((t, .pointer (some ⟨B, j, none⟩)) :: L) ops Q rest w) : St n L ops Q (⟨some t, .fieldAddr 26 x 0, ty, pos, aft, gd⟩ :: rest) w :=
  s_step hg rfl ht (fun ev hev => by have e := hev _ _ hx; simp [go_sem, e]) k
theorem sfFault1 {B j : Nat} (hg : Gok ops n L gd) (hx : evalL L x = some (.pointer (some ⟨B, j, none⟩))) (ht : Nat.blt t n = true)
    (k : St n ((t, .pointer (some ⟨B, j + 1, none⟩)) :: L) ops Q rest w) : St n L ops Q (⟨some t, .fieldAddr 26 x 1, ty, pos, aft, gd⟩ :: rest) w :=
  s_step hg rfl ht (fun ev hev => by have e := hev _ _ hx; simp [go_sem, e]) k
theorem sfFields0 {B j : Nat} (hg : Gok ops n L gd) (hx : evalL L x = some (.pointer (some ⟨B, j, none⟩))) (ht : Nat.blt t n = true)
    (k : St n ((t, .pointer (some ⟨B, j, none⟩)) :: L) ops Q rest w) : St n L ops Q (⟨some t, .fieldAddr 102 x 0, ty, pos, aft, gd⟩ :: rest) w :=
  s_step hg rfl ht (fun ev hev => by have e := hev _ _ hx; simp [go_sem, e]) k
theorem sfFields1 {B j : Nat} (hg : Gok ops n L gd) (hx : evalL L x = some (.pointer (some ⟨B, j, none⟩))) (ht : Nat.blt t n = true)
    (k : St n ((t, .pointer (some ⟨B, j + 1, none⟩)) :: L) ops Q rest w) : St n L ops Q (⟨some t, .fieldAddr 102 x 1, ty, pos, aft, gd⟩ :: rest) w :=
  s_step hg rfl ht (fun ev hev => by have e := hev _ _ hx; simp [go_sem, e]) k
theorem sfFields2 {B j : Nat} (hg : Gok ops n L gd) (hx : evalL L x = some (.pointer (some ⟨B, j, none⟩))) (ht : Nat.blt t n = true)
    (k : St n ((t, .pointer (some ⟨B, j + 2, none⟩)) :: L) ops Q rest w) : St n L ops Q (⟨some t, .fieldAddr 102 x 2, ty, pos, aft, gd⟩ :: rest) w :=
  s_step hg rfl ht (fun ev hev => by have e := hev _ _ hx; simp [go_sem, e]) k
theorem sfFields3 {B j : Nat} (hg : Gok ops n L gd) (hx : evalL L x = some (.pointer (some ⟨B, j, none⟩))) (ht : Nat.blt t n = true)
    (k : St n ((t, .pointer (some ⟨B, j + 3, none⟩)) :: L) ops Q rest w) : St n L ops Q (⟨some t, .fieldAddr 102 x 3, ty, pos, aft, gd⟩ :: rest) w :=
  s_step hg rfl ht (fun ev hev => by have e := hev _ _ hx; simp [go_sem, e]) k
theorem sfFields4 {B j : Nat} (hg : Gok ops n L gd) (hx : evalL L x = some (.pointer (some ⟨B, j, none⟩))) (ht : Nat.blt t n = true)
    (k : St n ((t, .pointer (some ⟨B, j + 4, none⟩)) :: L) ops Q rest w) : St n L ops Q (⟨some t, .fieldAddr 102 x 4, ty, pos, aft, gd⟩ :: rest) w :=
  s_step hg rfl ht (fun ev hev => by have e := hev _ _ hx; simp [go_sem, e]) k
theorem sfFields5 {B j : Nat} (hg : Gok ops n L gd) (hx : evalL L x = some (.pointer (some ⟨B, j, none⟩))) (ht : Nat.blt t n = true)
    (k : St n ((t, .pointer (some ⟨B, j + 5, none⟩)) :: L) ops Q rest w) : St n L ops Q (⟨some t, .fieldAddr 102 x 5, ty, pos, aft, gd⟩ :: rest) w :=
  s_step hg rfl ht (fun ev hev => by have e := hev _ _ hx; simp [go_sem, e]) k
theorem sfFields6 {B j : Nat} (hg : Gok ops n L gd) (hx : evalL L x = some (.pointer (some ⟨B, j, none⟩))) (ht : Nat.blt t n = true)
    (k : St n ((t, .pointer (some ⟨B, j + 6, none⟩)) :: L) ops Q rest w) : St n L ops Q (⟨some t, .fieldAddr 102 x 6, ty, pos, aft, gd⟩ :: rest) w :=
  s_step hg rfl ht (fun ev hev => by have e := hev _ _ hx; simp [go_sem, e]) k
theorem sffuncLook0 {B j : Nat} (hg : Gok ops n L gd) (hx : evalL L x = some (.pointer (some ⟨B, j, none⟩))) (ht : Nat.blt t n = true)
    (k : St n ((t, .pointer (some ⟨B, j, none⟩)) :: L) ops Q rest w) : St n L ops Q (⟨some t, .fieldAddr 84 x 0, ty, pos, aft, gd⟩ :: rest) w :=
  s_step hg rfl ht (fun ev hev => by have e := hev _ _ hx; simp [go_sem, e]) k
theorem sffuncLook1 {B j : Nat} (hg : Gok ops n L gd) (hx : evalL L x = some (.pointer (some ⟨B, j, none⟩))) (ht : Nat.blt t n = true)
    (k : St n ((t, .pointer (some ⟨B, j + 1, none⟩)) :: L) ops Q rest w) : St n L ops Q (⟨some t, .fieldAddr 84 x 1, ty, pos, aft, gd⟩ :: rest) w :=
  s_step hg rfl ht (fun ev hev => by have e := hev _ _ hx; simp [go_sem, e]) k
theorem sffuncLook2 {B j : Nat} (hg : Gok ops n L gd) (hx : evalL L x = some (.pointer (some ⟨B, j, none⟩))) (ht : Nat.blt t n = true)
    (k : St n ((t, .pointer (some ⟨B, j + 5, none⟩)) :: L) ops Q rest w) : St n L ops Q (⟨some t, .fieldAddr 84 x 2, ty, pos, aft, gd⟩ :: rest) w :=
  s_step hg rfl ht (fun ev hev => by have e := hev _ _ hx; simp [go_sem, e]) k
theorem sfblockLook0 {B j : Nat} (hg : Gok ops n L gd) (hx : evalL L x = some (.pointer (some ⟨B, j, none⟩))) (ht : Nat.blt t n = true)
    (k : St n ((t, .pointer (some ⟨B, j, none⟩)) :: L) ops Q rest w) : St n L ops Q (⟨some t, .fieldAddr 113 x 0, ty, pos, aft, gd⟩ :: rest) w :=
  s_step hg rfl ht (fun ev hev => by have e := hev _ _ hx; simp [go_sem, e]) k
theorem sfblockLook1 {B j : Nat} (hg : Gok ops n L gd) (hx : evalL L x = some (.pointer (some ⟨B, j, none⟩))) (ht : Nat.blt t n = true)
    (k : St n ((t, .pointer (some ⟨B, j + 6, none⟩)) :: L) ops Q rest w) : St n L ops Q (⟨some t, .fieldAddr 113 x 1, ty, pos, aft, gd⟩ :: rest) w :=
  s_step hg rfl ht (fun ev hev => by have e := hev _ _ hx; simp [go_sem, e]) k
theorem sfblockLook2 {B j : Nat} (hg : Gok ops n L gd) (hx : evalL L x = some (.pointer (some ⟨B, j, none⟩))) (ht : Nat.blt t n = true)
    (k : St n ((t, .pointer (some ⟨B, j + 18, none⟩)) :: L) ops Q rest w) : St n L ops Q (⟨some t, .fieldAddr 113 x 2, ty, pos, aft, gd⟩ :: rest) w :=
  s_step hg rfl ht (fun ev hev => by have e := hev _ _ hx; simp [go_sem, e]) k
theorem scInt {B j : Nat} (hc : w.cell? ⟨B, j, none⟩ = some v) (hg : Gok ops n L gd) (hx : evalL L x = some (.pointer (some ⟨B, j, none⟩))) (ht : Nat.blt t n = true)
    (k : St n ((t, v) :: L) ops Q rest w) : St n L ops Q (⟨some t, .load 3 x, ty, pos, aft, gd⟩ :: rest) w :=
  s_step hg rfl ht (fun ev hev => by have e := hev _ _ hx; simp [go_sem, e, hc]) k
theorem sbInt (i : Nat) {B j : Nat} {c : Array Value} {bt : TypeId} (hW : Wd w0 w Bs) (hg : Gok ops n L gd) (hx : evalL L x = some (.pointer (some ⟨B, j, none⟩))) (hb : Bs[i]? = some (B, c, bt)) (hc : c[j]? = some v) (ht : Nat.blt t n = true)
    (k : St n ((t, v) :: L) ops Q rest w) : St n L ops Q (⟨some t, .load 3 x, ty, pos, aft, gd⟩ :: rest) w := scInt (cellOf (hW.get i hb) j v hc) hg hx ht k
theorem scInt6 {B j : Nat} (hc : w.cell? ⟨B, j, none⟩ = some v) (hg : Gok ops n L gd) (hx : evalL L x = some (.pointer (some ⟨B, j, none⟩))) (ht : Nat.blt t n = true)
    (k : St n ((t, v) :: L) ops Q rest w) : St n L ops Q (⟨some t, .load 2 x, ty, pos, aft, gd⟩ :: rest) w :=
  s_step hg rfl ht (fun ev hev => by have e := hev _ _ hx; simp [go_sem, e, hc]) k
theorem sbInt6 (i : Nat) {B j : Nat} {c : Array Value} {bt : TypeId} (hW : Wd w0 w Bs) (hg : Gok ops n L gd) (hx : evalL L x = some (.pointer (some ⟨B, j, none⟩))) (hb : Bs[i]? = some (B, c, bt)) (hc : c[j]? = some v) (ht : Nat.blt t n = true)
    (k : St n ((t, v) :: L) ops Q rest w) : St n L ops Q (⟨some t, .load 2 x, ty, pos, aft, gd⟩ :: rest) w := scInt6 (cellOf (hW.get i hb) j v hc) hg hx ht k
theorem scBool {B j : Nat} (hc : w.cell? ⟨B, j, none⟩ = some v) (hg : Gok ops n L gd) (hx : evalL L x = some (.pointer (some ⟨B, j, none⟩))) (ht : Nat.blt t n = true)
    (k : St n ((t, v) :: L) ops Q rest w) : St n L ops Q (⟨some t, .load 4 x, ty, pos, aft, gd⟩ :: rest) w :=
  s_step hg rfl ht (fun ev hev => by have e := hev _ _ hx; simp [go_sem, e, hc]) k
theorem sbBool (i : Nat) {B j : Nat} {c : Array Value} {bt : TypeId} (hW : Wd w0 w Bs) (hg : Gok ops n L gd) (hx : evalL L x = some (.pointer (some ⟨B, j, none⟩))) (hb : Bs[i]? = some (B, c, bt)) (hc : c[j]? = some v) (ht : Nat.blt t n = true)
    (k : St n ((t, v) :: L) ops Q rest w) : St n L ops Q (⟨some t, .load 4 x, ty, pos, aft, gd⟩ :: rest) w := scBool (cellOf (hW.get i hb) j v hc) hg hx ht k
theorem scInts {B j : Nat} (hc : w.cell? ⟨B, j, none⟩ = some v) (hg : Gok ops n L gd) (hx : evalL L x = some (.pointer (some ⟨B, j, none⟩))) (ht : Nat.blt t n = true)
    (k : St n ((t, v) :: L) ops Q rest w) : St n L ops Q (⟨some t, .load 44 x, ty, pos, aft, gd⟩ :: rest) w :=
  s_step hg rfl ht (fun ev hev => by have e := hev _ _ hx; simp [go_sem, e, hc]) k
theorem sbInts (i : Nat) {B j : Nat} {c : Array Value} {bt : TypeId} (hW : Wd w0 w Bs) (hg : Gok ops n L gd) (hx : evalL L x = some (.pointer (some ⟨B, j, none⟩))) (hb : Bs[i]? = some (B, c, bt)) (hc : c[j]? = some v) (ht : Nat.blt t n = true)
    (k : St n ((t, v) :: L) ops Q rest w) : St n L ops Q (⟨some t, .load 44 x, ty, pos, aft, gd⟩ :: rest) w := scInts (cellOf (hW.get i hb) j v hc) hg hx ht k
theorem scTypes {B j : Nat} (hc : w.cell? ⟨B, j, none⟩ = some v) (hg : Gok ops n L gd) (hx : evalL L x = some (.pointer (some ⟨B, j, none⟩))) (ht : Nat.blt t n = true)
    (k : St n ((t, v) :: L) ops Q rest w) : St n L ops Q (⟨some t, .load 47 x, ty, pos, aft, gd⟩ :: rest) w :=
  s_step hg rfl ht (fun ev hev => by have e := hev _ _ hx; simp [go_sem, e, hc]) k
theorem sbTypes (i : Nat) {B j : Nat} {c : Array Value} {bt : TypeId} (hW : Wd w0 w Bs) (hg : Gok ops n L gd) (hx : evalL L x = some (.pointer (some ⟨B, j, none⟩))) (hb : Bs[i]? = some (B, c, bt)) (hc : c[j]? = some v) (ht : Nat.blt t n = true)
    (k : St n ((t, v) :: L) ops Q rest w) : St n L ops Q (⟨some t, .load 47 x, ty, pos, aft, gd⟩ :: rest) w := scTypes (cellOf (hW.get i hb) j v hc) hg hx ht k
theorem scInss {B j : Nat} (hc : w.cell? ⟨B, j, none⟩ = some v) (hg : Gok ops n L gd) (hx : evalL L x = some (.pointer (some ⟨B, j, none⟩))) (ht : Nat.blt t n = true)
    (k : St n ((t, v) :: L) ops Q rest w) : St n L ops Q (⟨some t, .load 75 x, ty, pos, aft, gd⟩ :: rest) w :=
  s_step hg rfl ht (fun ev hev => by have e := hev _ _ hx; simp [go_sem, e, hc]) k
theorem sbInss (i : Nat) {B j : Nat} {c : Array Value} {bt : TypeId} (hW : Wd w0 w Bs) (hg : Gok ops n L gd) (hx : evalL L x = some (.pointer (some ⟨B, j, none⟩))) (hb : Bs[i]? = some (B, c, bt)) (hc : c[j]? = some v) (ht : Nat.blt t n = true)
    (k : St n ((t, v) :: L) ops Q rest w) : St n L ops Q (⟨some t, .load 75 x, ty, pos, aft, gd⟩ :: rest) w := scInss (cellOf (hW.get i hb) j v hc) hg hx ht k
theorem scBlocks {B j : Nat} (hc : w.cell? ⟨B, j, none⟩ = some v) (hg : Gok ops n L gd) (hx : evalL L x = some (.pointer (some ⟨B, j, none⟩))) (ht : Nat.blt t n = true)
    (k : St n ((t, v) :: L) ops Q rest w) : St n L ops Q (⟨some t, .load 48 x, ty, pos, aft, gd⟩ :: rest) w :=
  s_step hg rfl ht (fun ev hev => by have e := hev _ _ hx; simp [go_sem, e, hc]) k
theorem sbBlocks (i : Nat) {B j : Nat} {c : Array Value} {bt : TypeId} (hW : Wd w0 w Bs) (hg : Gok ops n L gd) (hx : evalL L x = some (.pointer (some ⟨B, j, none⟩))) (hb : Bs[i]? = some (B, c, bt)) (hc : c[j]? = some v) (ht : Nat.blt t n = true)
    (k : St n ((t, v) :: L) ops Q rest w) : St n L ops Q (⟨some t, .load 48 x, ty, pos, aft, gd⟩ :: rest) w := scBlocks (cellOf (hW.get i hb) j v hc) hg hx ht k
theorem scFuncs {B j : Nat} (hc : w.cell? ⟨B, j, none⟩ = some v) (hg : Gok ops n L gd) (hx : evalL L x = some (.pointer (some ⟨B, j, none⟩))) (ht : Nat.blt t n = true)
    (k : St n ((t, v) :: L) ops Q rest w) : St n L ops Q (⟨some t, .load 37 x, ty, pos, aft, gd⟩ :: rest) w :=
  s_step hg rfl ht (fun ev hev => by have e := hev _ _ hx; simp [go_sem, e, hc]) k
theorem sbFuncs (i : Nat) {B j : Nat} {c : Array Value} {bt : TypeId} (hW : Wd w0 w Bs) (hg : Gok ops n L gd) (hx : evalL L x = some (.pointer (some ⟨B, j, none⟩))) (hb : Bs[i]? = some (B, c, bt)) (hc : c[j]? = some v) (ht : Nat.blt t n = true)
    (k : St n ((t, v) :: L) ops Q rest w) : St n L ops Q (⟨some t, .load 37 x, ty, pos, aft, gd⟩ :: rest) w := scFuncs (cellOf (hW.get i hb) j v hc) hg hx ht k

theorem rangeOf {w : World} {B : Nat} {c : Array Value} {t : TypeId} (h : Blk w B c t) (j m : Nat) (hn : Nat.ble (j + m) c.size = true) : w.rangeAt B j ((c.toList.drop j).take m) := fun k v hk => by
  have hlt : k < ((c.toList.drop j).take m).length := (List.getElem?_eq_some_iff.1 hk).1
  have hm : k < m := by simp at hlt; omega
  rw [List.getElem?_take, if_pos hm, List.getElem?_drop] at hk
  exact cellOf h (j + k) v (by simpa using hk)
theorem thereOf {w : World} {B : Nat} {c : Array Value} {t : TypeId} (h : Blk w B c t) (j n : Nat) (hn : j + n ≤ c.size) : w.there B j n := fun k hk =>
  ⟨by rw [cellOf h (j + k) c[j + k] (by simp [show j + k < c.size by omega])]; rfl, freeOf h (j + k)⟩
theorem rangeAt_bel {w w' : World} {B j : Nat} {cs : List Value} (h : w.rangeAt B j cs) (b : Below w.heap.size w w') : w'.rangeAt B j cs := fun k v hk => bel_cell b (h k v hk)
/-- A struct, out of cells of which is known what they hold. -/
theorem sSE {d : TypeDesc} {B j : Nat} {cs : List Value} (hu : Try.prog.underlying ty2 = some d) (hd : d.isRow = true) (hr : w.rangeAt B j cs) (hi : (Try.prog.info? ty2).map (·.size) = some cs.length) (hg : Gok ops n L gd) (hx : evalL L x = some (.pointer (some ⟨B, j, none⟩))) (ht : Nat.blt t n = true)
    (k : St n ((t, .agg cs.toArray) :: L) ops Q rest w) : St n L ops Q (⟨some t, .load ty2 x, ty, pos, aft, gd⟩ :: rest) w :=
  s_step hg rfl ht (fun ev hev => by
    have e := hev _ _ hx
    have e2 := run_loadAt_mid (P := Try.prog) w B j ty2 cs d hr hu hd hi
    unfold execOp
    simp only [e, Sem.run_bind, e2, Result.andThen_ok, Sem.run_pure]) k
/-- A struct, out of a box. -/
theorem sS {d : TypeDesc} (i m : Nat) {B j : Nat} {c : Array Value} {bt : TypeId} (hu : Try.prog.underlying ty2 = some d) (hd : d.isRow = true) (hi : (Try.prog.info? ty2).map (·.size) = some m) (hW : Wd w0 w Bs) (hg : Gok ops n L gd) (hx : evalL L x = some (.pointer (some ⟨B, j, none⟩))) (hb : Bs[i]? = some (B, c, bt)) (hn : Nat.ble (j + m) c.size = true) (ht : Nat.blt t n = true)
    (k : St n ((t, .agg ((c.toList.drop j).take m).toArray) :: L) ops Q rest w) : St n L ops Q (⟨some t, .load ty2 x, ty, pos, aft, gd⟩ :: rest) w :=
  sSE hu hd (rangeOf (hW.get i hb) j m hn) (by rw [hi]; have : j + m ≤ c.size := by simpa [Nat.ble_eq] using hn
                                               simp; omega) hg hx ht k
/-- A new box. -/
theorem s_new {o : Oper} (c : Array Value) (bt : TypeId) (hW : Wd w0 w Bs) (hd : o.dst = some t) (hg : Gok ops n L o.guard) (ht : Nat.blt t n = true)
    (h : ∀ ev : Operand → Value, (∀ x v, evalL L x = some v → ev x = v) → (execOp ev o).run Try.prog w = .ok (.value (.pointer (some ⟨w.heap.size, 0, none⟩))) (w.alloc (.cells c bt)))
    (k : ∀ w' B, Wd w0 w' ((B, c, bt) :: Bs) → New w w' B → St n ((t, .pointer (some ⟨B, 0, none⟩)) :: L) ops Q rest w') : St n L ops Q (o :: rest) w := fun a hF =>
  wpList_step fun K hK => by
    rw [if_pos (hg.on hF)]
    unfold Oper.wp
    rw [h a.eval (fun x v e => hF.ev e), Oper.upon_value, hd]
    exact hK _ _ (k _ _ (hW.new' c bt) ⟨bel1 w _, rfl, by simp⟩ _ (hF.put ht))
theorem sB {cs : Array Value} (hW : Wd w0 w Bs) (hg : Gok ops n L gd) (hx : evalL L x = some (.agg cs)) (ht : Nat.blt t n = true)
    (k : ∀ w' B, Wd w0 w' ((B, cs, ty2) :: Bs) → New w w' B → St n ((t, .pointer (some ⟨B, 0, none⟩)) :: L) ops Q rest w') : St n L ops Q (⟨some t, .box ty2 x, ty, pos, aft, gd⟩ :: rest) w :=
  s_new cs ty2 hW rfl hg ht (fun ev hev => by have e := hev _ _ hx; simp [go_sem, e]) k
theorem sAType (hW : Wd w0 w Bs) (hg : Gok ops n L gd) (ht : Nat.blt t n = true)
    (k : ∀ w' B, Wd w0 w' ((B, #[.int .i64 0, .int .i64 0, .slice none 0 0], 90) :: Bs) → New w w' B → St n ((t, .pointer (some ⟨B, 0, none⟩)) :: L) ops Q rest w') : St n L ops Q (⟨some t, .alloc 90, ty, pos, aft, gd⟩ :: rest) w :=
  s_new #[.int .i64 0, .int .i64 0, .slice none 0 0] 90 hW rfl hg ht (fun ev hev => by simp [go_sem]) k
theorem sAIns (hW : Wd w0 w Bs) (hg : Gok ops n L gd) (ht : Nat.blt t n = true)
    (k : ∀ w' B, Wd w0 w' ((B, #[.int .i64 0, .int .i64 0, .int .i64 0, .int .i64 0, .int .i64 0, .int .i64 0, .slice none 0 0, .slice none 0 0], 46) :: Bs) → New w w' B → St n ((t, .pointer (some ⟨B, 0, none⟩)) :: L) ops Q rest w') : St n L ops Q (⟨some t, .alloc 46, ty, pos, aft, gd⟩ :: rest) w :=
  s_new #[.int .i64 0, .int .i64 0, .int .i64 0, .int .i64 0, .int .i64 0, .int .i64 0, .slice none 0 0, .slice none 0 0] 46 hW rfl hg ht (fun ev hev => by simp [go_sem]) k
theorem sATo (hW : Wd w0 w Bs) (hg : Gok ops n L gd) (ht : Nat.blt t n = true)
    (k : ∀ w' B, Wd w0 w' ((B, #[.int .i64 0, .slice none 0 0, .slice none 0 0], 52) :: Bs) → New w w' B → St n ((t, .pointer (some ⟨B, 0, none⟩)) :: L) ops Q rest w') : St n L ops Q (⟨some t, .alloc 52, ty, pos, aft, gd⟩ :: rest) w :=
  s_new #[.int .i64 0, .slice none 0 0, .slice none 0 0] 52 hW rfl hg ht (fun ev hev => by simp [go_sem]) k
theorem sAEnd (hW : Wd w0 w Bs) (hg : Gok ops n L gd) (ht : Nat.blt t n = true)
    (k : ∀ w' B, Wd w0 w' ((B, #[.int .i64 0, .int .i64 0, .int .i64 0, .slice none 0 0, .slice none 0 0, .int .i64 0, .slice none 0 0, .slice none 0 0, .slice none 0 0], 54) :: Bs) → New w w' B → St n ((t, .pointer (some ⟨B, 0, none⟩)) :: L) ops Q rest w') : St n L ops Q (⟨some t, .alloc 54, ty, pos, aft, gd⟩ :: rest) w :=
  s_new #[.int .i64 0, .int .i64 0, .int .i64 0, .slice none 0 0, .slice none 0 0, .int .i64 0, .slice none 0 0, .slice none 0 0, .slice none 0 0] 54 hW rfl hg ht (fun ev hev => by simp [go_sem]) k
theorem sABlock (hW : Wd w0 w Bs) (hg : Gok ops n L gd) (ht : Nat.blt t n = true)
    (k : ∀ w' B, Wd w0 w' ((B, #[.int .i64 0, .slice none 0 0, .slice none 0 0, .int .i64 0, .int .i64 0, .int .i64 0, .slice none 0 0, .slice none 0 0, .int .i64 0, .slice none 0 0, .slice none 0 0, .slice none 0 0], 77) :: Bs) → New w w' B → St n ((t, .pointer (some ⟨B, 0, none⟩)) :: L) ops Q rest w') : St n L ops Q (⟨some t, .alloc 77, ty, pos, aft, gd⟩ :: rest) w :=
  s_new #[.int .i64 0, .slice none 0 0, .slice none 0 0, .int .i64 0, .int .i64 0, .int .i64 0, .slice none 0 0, .slice none 0 0, .int .i64 0, .slice none 0 0, .slice none 0 0, .slice none 0 0] 77 hW rfl hg ht (fun ev hev => by simp [go_sem]) k
theorem sAFunc (hW : Wd w0 w Bs) (hg : Gok ops n L gd) (ht : Nat.blt t n = true)
    (k : ∀ w' B, Wd w0 w' ((B, #[.int .i64 0, .slice none 0 0, .slice none 0 0, .slice none 0 0], 50) :: Bs) → New w w' B → St n ((t, .pointer (some ⟨B, 0, none⟩)) :: L) ops Q rest w') : St n L ops Q (⟨some t, .alloc 50, ty, pos, aft, gd⟩ :: rest) w :=
  s_new #[.int .i64 0, .slice none 0 0, .slice none 0 0, .slice none 0 0] 50 hW rfl hg ht (fun ev hev => by simp [go_sem]) k
theorem sAModule (hW : Wd w0 w Bs) (hg : Gok ops n L gd) (ht : Nat.blt t n = true)
    (k : ∀ w' B, Wd w0 w' ((B, #[.slice none 0 0], 39) :: Bs) → New w w' B → St n ((t, .pointer (some ⟨B, 0, none⟩)) :: L) ops Q rest w') : St n L ops Q (⟨some t, .alloc 39, ty, pos, aft, gd⟩ :: rest) w :=
  s_new #[.slice none 0 0] 39 hW rfl hg ht (fun ev hev => by simp [go_sem]) k
theorem sAFault (hW : Wd w0 w Bs) (hg : Gok ops n L gd) (ht : Nat.blt t n = true)
    (k : ∀ w' B, Wd w0 w' ((B, #[.int .i64 0, .int .i64 0], 26) :: Bs) → New w w' B → St n ((t, .pointer (some ⟨B, 0, none⟩)) :: L) ops Q rest w') : St n L ops Q (⟨some t, .alloc 26, ty, pos, aft, gd⟩ :: rest) w :=
  s_new #[.int .i64 0, .int .i64 0] 26 hW rfl hg ht (fun ev hev => by simp [go_sem]) k
theorem sAFields (hW : Wd w0 w Bs) (hg : Gok ops n L gd) (ht : Nat.blt t n = true)
    (k : ∀ w' B, Wd w0 w' ((B, #[.bool false, .bool false, .bool false, .bool false, .bool false, .bool false, .bool false], 102) :: Bs) → New w w' B → St n ((t, .pointer (some ⟨B, 0, none⟩)) :: L) ops Q rest w') : St n L ops Q (⟨some t, .alloc 102, ty, pos, aft, gd⟩ :: rest) w :=
  s_new #[.bool false, .bool false, .bool false, .bool false, .bool false, .bool false, .bool false] 102 hW rfl hg ht (fun ev hev => by simp [go_sem]) k
theorem sAfuncLook (hW : Wd w0 w Bs) (hg : Gok ops n L gd) (ht : Nat.blt t n = true)
    (k : ∀ w' B, Wd w0 w' ((B, #[.slice none 0 0, .int .i64 0, .slice none 0 0, .slice none 0 0, .slice none 0 0, .int .i64 0], 84) :: Bs) → New w w' B → St n ((t, .pointer (some ⟨B, 0, none⟩)) :: L) ops Q rest w') : St n L ops Q (⟨some t, .alloc 84, ty, pos, aft, gd⟩ :: rest) w :=
  s_new #[.slice none 0 0, .int .i64 0, .slice none 0 0, .slice none 0 0, .slice none 0 0, .int .i64 0] 84 hW rfl hg ht (fun ev hev => by simp [go_sem]) k
theorem sAblockLook (hW : Wd w0 w Bs) (hg : Gok ops n L gd) (ht : Nat.blt t n = true)
    (k : ∀ w' B, Wd w0 w' ((B, #[.slice none 0 0, .int .i64 0, .slice none 0 0, .slice none 0 0, .slice none 0 0, .int .i64 0, .int .i64 0, .slice none 0 0, .slice none 0 0, .int .i64 0, .int .i64 0, .int .i64 0, .slice none 0 0, .slice none 0 0, .int .i64 0, .slice none 0 0, .slice none 0 0, .slice none 0 0, .int .i64 0], 113) :: Bs) → New w w' B → St n ((t, .pointer (some ⟨B, 0, none⟩)) :: L) ops Q rest w') : St n L ops Q (⟨some t, .alloc 113, ty, pos, aft, gd⟩ :: rest) w :=
  s_new #[.slice none 0 0, .int .i64 0, .slice none 0 0, .slice none 0 0, .slice none 0 0, .int .i64 0, .int .i64 0, .slice none 0 0, .slice none 0 0, .int .i64 0, .int .i64 0, .int .i64 0, .slice none 0 0, .slice none 0 0, .int .i64 0, .slice none 0 0, .slice none 0 0, .slice none 0 0, .int .i64 0] 113 hW rfl hg ht (fun ev hev => by simp [go_sem]) k

/-- A store of a struct into a box. -/
theorem sT (i : Nat) {B j : Nat} {c : Array Value} {bt : TypeId} {cells : List Value} (hW : Wd w0 w Bs)
    (hx : evalL L x = some (.pointer (some ⟨B, j, none⟩))) (hy : evalL L y = some (.agg cells.toArray)) (hi : (Try.prog.info? ty2).map (·.size) = some cells.length) (h1 : cells.all (·.oneCell') = true)
    (hb : Bs[i]? = some (B, c, bt)) (hs : Nat.ble (j + cells.length) c.size = true)
    (k : ∀ w', Wd w0 w' (Bs.set i (B, spliced c j cells, bt)) → St n L ops Q rest w') : St n L ops Q (⟨none, .store ty2 x y, ty, pos, aft, none⟩ :: rest) w := fun a hF => by
  have hn : j + cells.length ≤ c.size := by simpa [Nat.ble_eq] using hs
  refine fr_set hF (hW.setAt i hb j cells hs rfl rfl) rfl rfl (fun K hK => ?_) (fun w' hW' => k w' hW' a hF)
  have e := hF.ev hx
  have e2 := hF.ev hy
  have := run_storeAt_mid (P := Try.prog) w B j ty2 cells.toArray (by simpa using thereOf (hW.get i hb) j cells.length hn) (by simpa using hi) (by simpa using h1)
  unfold Oper.wp execOp
  simp only [e, e2, Sem.run_bind, this, Result.andThen_ok, Sem.run_pure]
  rw [Oper.upon_skip]; simpa [Act.put] using hK
/-- A store of one cell into a box. -/
theorem s1 (i : Nat) {B j : Nat} {c : Array Value} {bt : TypeId} (hi : (Try.prog.info? ty2).map (·.size) = some 1) (hW : Wd w0 w Bs)
    (hx : evalL L x = some (.pointer (some ⟨B, j, none⟩))) (hy : evalL L y = some v) (hv : v.cells = #[v]) (h1 : v.oneCell' = true)
    (hb : Bs[i]? = some (B, c, bt)) (hs : Nat.ble (j + 1) c.size = true)
    (k : ∀ w', Wd w0 w' (Bs.set i (B, spliced c j [v], bt)) → St n L ops Q rest w') : St n L ops Q (⟨none, .store ty2 x y, ty, pos, aft, none⟩ :: rest) w := fun a hF => by
  have hn : j + 1 ≤ c.size := by simpa [Nat.ble_eq] using hs
  refine fr_set hF (hW.setAt i hb j [v] hs rfl rfl) rfl rfl (fun K hK => ?_) (fun w' hW' => k w' hW' a hF)
  have e := hF.ev hx
  have e2 := hF.ev hy
  have ht := thereOf (hW.get i hb) j 1 hn
  have h2 := run_storeCells_cells (P := Try.prog) B j [v] 0 w (fun k hk => by simpa using (ht k (by simpa using hk)).1) (fun k hk => by simpa using (ht k (by simpa using hk)).2) (fun u hu => by simp at hu; subst hu; exact h1)
  have h3 : (Instr.storeAt ty2 (.pointer (some ⟨B, j, none⟩)) v).run Try.prog w = .ok () (w.setCells B j [v]) := by
    cases hq : Try.prog.info? ty2 with
    | none => simp [hq] at hi
    | some q =>
      have hs1 : q.size = 1 := by simpa [hq] using hi
      simp only [Nat.add_zero] at h2
      simp [Instr.storeAt, Instr.sureAddr, storeVar, sizeOf, typeInfo, hq, hv, hs1, h2]
  unfold Oper.wp execOp
  simp only [e, e2, Sem.run_bind, h3, Result.andThen_ok, Sem.run_pure]
  rw [Oper.upon_skip]; simpa [Act.put] using hK
/-- A slice that is written out: its row. -/
theorem q_row {o : Oper} (c : Array Value) (ty : TypeId) (m : Nat) (hF : Fr n a L) (hW : Wd w0 w Bs) (hd : o.dst = some t) (hg : Gok ops n L o.guard) (ht : Nat.blt t n = true)
    (h : ∀ K : Act → World → Prop, K (a.put (some t) (.slice (some ⟨w.heap.size, 0, none⟩) m m)) (w.alloc (.cells c ty)) → o.wp Try.prog a w K Q)
    (k : ∀ a' w' B, Wd w0 w' ((B, c, ty) :: Bs) → New w w' B → Fr n a' ((t, .slice (some ⟨B, 0, none⟩) m m) :: L) → wpList Try.prog ops Q rest a' w') : wpList Try.prog ops Q (o :: rest) a w :=
  wpList_step fun K hK => by
    rw [if_pos (hg.on hF)]
    exact h K (hK _ _ (k _ _ _ (hW.new' c ty) ⟨bel1 w _, rfl, by simp⟩ (hF.put ht)))
/-- A call that only reads. -/
theorem s_call {o : Oper} {f : FuncId} {args : Array Value} {V : Value} (hW : Wd w0 w Bs) (hg : Gok ops n L o.guard) (hc : Rd Try.prog f args w V) (hd : o.dst = some t) (ht : Nat.blt t n = true)
    (h : ∀ ev : Operand → Value, (∀ x v, evalL L x = some v → ev x = v) → (execOp ev o).run Try.prog w = .ok (.enter f args) w)
    (k : ∀ w', Wd w0 w' Bs → St n ((t, V) :: L) ops Q rest w') : St n L ops Q (o :: rest) w := fun a hF =>
  wpList_step fun K hK => by
    rw [if_pos (hg.on hF)]
    unfold Oper.wp
    rw [h a.eval (fun x v e => hF.ev e), Oper.upon_enter]
    refine hc.mono ?_
    rintro e w9 ⟨rfl, hb⟩
    rw [hd]
    exact hK _ _ (k _ (hW.below hb) _ (hF.put ht))
/-- A function that has a body is entered. -/
def CF (f : FuncId) : Prop := ∀ (args : Array Value) (w : World), (callFunc f args).run Try.prog w = .ok (.enter f args) w
theorem cf_of {f : FuncId} {fn : Func} (hf : Try.prog.funcs[f]? = some fn) (h1 : (fn.name == "runtime.NumGoroutine") = false) (h2 : fn.body.isNone = false) : CF f := fun args w => by
  have h3 : ¬ fn.name = "runtime.NumGoroutine" := by simpa using h1
  have h4 : ¬ fn.body = none := by intro h; rw [h] at h2; cases h2
  simp [callFunc, hf, h3, h4]
theorem sc_0 {f : FuncId} {ts : Array TypeId}  {V : Value} (hcf : CF f) (hW : Wd w0 w Bs) (hc : Rd Try.prog f #[] w V) (hg : Gok ops n L gd)  (ht : Nat.blt t n = true)
    (k : ∀ w', Wd w0 w' Bs → St n ((t, V) :: L) ops Q rest w') : St n L ops Q (⟨some t, .call { callee := .value (.func f), args := #[], argTypes := ts }, ty, pos, aft, gd⟩ :: rest) w :=
  s_call hW hg hc rfl ht (fun ev hev => by have ef := hev (.func f) _ rfl; have ec := hcf; unfold CF at ec; simp [go_sem, ef, ec]) k
theorem sc_1 {f : FuncId} {ts : Array TypeId} {x0 : Operand} {v0 : Value} {V : Value} (hcf : CF f) (hW : Wd w0 w Bs) (hc : Rd Try.prog f #[v0] w V) (hg : Gok ops n L gd) (h0 : evalL L x0 = some v0) (ht : Nat.blt t n = true)
    (k : ∀ w', Wd w0 w' Bs → St n ((t, V) :: L) ops Q rest w') : St n L ops Q (⟨some t, .call { callee := .value (.func f), args := #[x0], argTypes := ts }, ty, pos, aft, gd⟩ :: rest) w :=
  s_call hW hg hc rfl ht (fun ev hev => by have e0 := hev _ _ h0; have ef := hev (.func f) _ rfl; have ec := hcf; unfold CF at ec; simp [go_sem, ef, ec, e0]) k
theorem sc_2 {f : FuncId} {ts : Array TypeId} {x0 x1 : Operand} {v0 v1 : Value} {V : Value} (hcf : CF f) (hW : Wd w0 w Bs) (hc : Rd Try.prog f #[v0, v1] w V) (hg : Gok ops n L gd) (h0 : evalL L x0 = some v0) (h1 : evalL L x1 = some v1) (ht : Nat.blt t n = true)
    (k : ∀ w', Wd w0 w' Bs → St n ((t, V) :: L) ops Q rest w') : St n L ops Q (⟨some t, .call { callee := .value (.func f), args := #[x0, x1], argTypes := ts }, ty, pos, aft, gd⟩ :: rest) w :=
  s_call hW hg hc rfl ht (fun ev hev => by have e0 := hev _ _ h0; have e1 := hev _ _ h1; have ef := hev (.func f) _ rfl; have ec := hcf; unfold CF at ec; simp [go_sem, ef, ec, e0, e1]) k
theorem sc_3 {f : FuncId} {ts : Array TypeId} {x0 x1 x2 : Operand} {v0 v1 v2 : Value} {V : Value} (hcf : CF f) (hW : Wd w0 w Bs) (hc : Rd Try.prog f #[v0, v1, v2] w V) (hg : Gok ops n L gd) (h0 : evalL L x0 = some v0) (h1 : evalL L x1 = some v1) (h2 : evalL L x2 = some v2) (ht : Nat.blt t n = true)
    (k : ∀ w', Wd w0 w' Bs → St n ((t, V) :: L) ops Q rest w') : St n L ops Q (⟨some t, .call { callee := .value (.func f), args := #[x0, x1, x2], argTypes := ts }, ty, pos, aft, gd⟩ :: rest) w :=
  s_call hW hg hc rfl ht (fun ev hev => by have e0 := hev _ _ h0; have e1 := hev _ _ h1; have e2 := hev _ _ h2; have ef := hev (.func f) _ rfl; have ec := hcf; unfold CF at ec; simp [go_sem, ef, ec, e0, e1, e2]) k
theorem sv_10 {f : FuncId} {ts : Array TypeId} {xf : Operand} {x0 : Operand} {v0 : Value} {V : Value} (hcf : CF f) (hW : Wd w0 w Bs) (hc : Rd Try.prog f #[v0] w V) (hg : Gok ops n L gd) (hf : evalL L xf = some (.func (.func f) #[] #[])) (h0 : evalL L x0 = some v0) (ht : Nat.blt t n = true)
    (k : ∀ w', Wd w0 w' Bs → St n ((t, V) :: L) ops Q rest w') : St n L ops Q (⟨some t, .call { callee := .value xf, args := #[x0], argTypes := ts }, ty, pos, aft, gd⟩ :: rest) w :=
  s_call hW hg hc rfl ht (fun ev hev => by have e0 := hev _ _ h0; have ef := hev _ _ hf; have ec := hcf; unfold CF at ec; simp [go_sem, ef, ec, e0]) k
theorem sv_11 {f : FuncId} {ts : Array TypeId} {xf : Operand} {x0 : Operand} {v0 cp : Value} {V : Value} (hcf : CF f) (hW : Wd w0 w Bs) (hc : Rd Try.prog f #[v0, cp] w V) (hg : Gok ops n L gd) (hf : evalL L xf = some (.func (.func f) #[] #[cp])) (h0 : evalL L x0 = some v0) (ht : Nat.blt t n = true)
    (k : ∀ w', Wd w0 w' Bs → St n ((t, V) :: L) ops Q rest w') : St n L ops Q (⟨some t, .call { callee := .value xf, args := #[x0], argTypes := ts }, ty, pos, aft, gd⟩ :: rest) w :=
  s_call hW hg hc rfl ht (fun ev hev => by have e0 := hev _ _ h0; have ef := hev _ _ hf; have ec := hcf; unfold CF at ec; simp [go_sem, ef, ec, e0]) k
theorem sv_20 {f : FuncId} {ts : Array TypeId} {xf : Operand} {x0 x1 : Operand} {v0 v1 : Value} {V : Value} (hcf : CF f) (hW : Wd w0 w Bs) (hc : Rd Try.prog f #[v0, v1] w V) (hg : Gok ops n L gd) (hf : evalL L xf = some (.func (.func f) #[] #[])) (h0 : evalL L x0 = some v0) (h1 : evalL L x1 = some v1) (ht : Nat.blt t n = true)
    (k : ∀ w', Wd w0 w' Bs → St n ((t, V) :: L) ops Q rest w') : St n L ops Q (⟨some t, .call { callee := .value xf, args := #[x0, x1], argTypes := ts }, ty, pos, aft, gd⟩ :: rest) w :=
  s_call hW hg hc rfl ht (fun ev hev => by have e0 := hev _ _ h0; have e1 := hev _ _ h1; have ef := hev _ _ hf; have ec := hcf; unfold CF at ec; simp [go_sem, ef, ec, e0, e1]) k
theorem sv_21 {f : FuncId} {ts : Array TypeId} {xf : Operand} {x0 x1 : Operand} {v0 v1 cp : Value} {V : Value} (hcf : CF f) (hW : Wd w0 w Bs) (hc : Rd Try.prog f #[v0, v1, cp] w V) (hg : Gok ops n L gd) (hf : evalL L xf = some (.func (.func f) #[] #[cp])) (h0 : evalL L x0 = some v0) (h1 : evalL L x1 = some v1) (ht : Nat.blt t n = true)
    (k : ∀ w', Wd w0 w' Bs → St n ((t, V) :: L) ops Q rest w') : St n L ops Q (⟨some t, .call { callee := .value xf, args := #[x0, x1], argTypes := ts }, ty, pos, aft, gd⟩ :: rest) w :=
  s_call hW hg hc rfl ht (fun ev hev => by have e0 := hev _ _ h0; have e1 := hev _ _ h1; have ef := hev _ _ hf; have ec := hcf; unfold CF at ec; simp [go_sem, ef, ec, e0, e1]) k
theorem cf4 : CF 4 := cf_of Try.func4 (by kernel_rfl) (by kernel_rfl)
theorem cf5 : CF 5 := cf_of Try.func5 (by kernel_rfl) (by kernel_rfl)
theorem cf12 : CF 12 := cf_of Try.func12 (by kernel_rfl) (by kernel_rfl)
theorem cf13 : CF 13 := cf_of Try.func13 (by kernel_rfl) (by kernel_rfl)
theorem cf14 : CF 14 := cf_of Try.func14 (by kernel_rfl) (by kernel_rfl)
theorem cf15 : CF 15 := cf_of Try.func15 (by kernel_rfl) (by kernel_rfl)
theorem cf16 : CF 16 := cf_of Try.func16 (by kernel_rfl) (by kernel_rfl)
theorem cf17 : CF 17 := cf_of Try.func17 (by kernel_rfl) (by kernel_rfl)
theorem cf18 : CF 18 := cf_of Try.func18 (by kernel_rfl) (by kernel_rfl)
theorem cf19 : CF 19 := cf_of Try.func19 (by kernel_rfl) (by kernel_rfl)
theorem cf20 : CF 20 := cf_of Try.func20 (by kernel_rfl) (by kernel_rfl)
theorem cf21 : CF 21 := cf_of Try.func21 (by kernel_rfl) (by kernel_rfl)
theorem cf22 : CF 22 := cf_of Try.func22 (by kernel_rfl) (by kernel_rfl)
theorem cf23 : CF 23 := cf_of Try.func23 (by kernel_rfl) (by kernel_rfl)
theorem cf24 : CF 24 := cf_of Try.func24 (by kernel_rfl) (by kernel_rfl)
theorem cf25 : CF 25 := cf_of Try.func25 (by kernel_rfl) (by kernel_rfl)
theorem cf26 : CF 26 := cf_of Try.func26 (by kernel_rfl) (by kernel_rfl)
theorem cf27 : CF 27 := cf_of Try.func27 (by kernel_rfl) (by kernel_rfl)
theorem cf28 : CF 28 := cf_of Try.func28 (by kernel_rfl) (by kernel_rfl)
theorem cf29 : CF 29 := cf_of Try.func29 (by kernel_rfl) (by kernel_rfl)
theorem cf30 : CF 30 := cf_of Try.func30 (by kernel_rfl) (by kernel_rfl)
theorem cf31 : CF 31 := cf_of Try.func31 (by kernel_rfl) (by kernel_rfl)
theorem cf32 : CF 32 := cf_of Try.func32 (by kernel_rfl) (by kernel_rfl)
theorem cf40 : CF 40 := cf_of Try.func40 (by kernel_rfl) (by kernel_rfl)
theorem cf41 : CF 41 := cf_of Try.func41 (by kernel_rfl) (by kernel_rfl)
theorem cf42 : CF 42 := cf_of Try.func42 (by kernel_rfl) (by kernel_rfl)
theorem cf43 : CF 43 := cf_of Try.func43 (by kernel_rfl) (by kernel_rfl)
theorem cf44 : CF 44 := cf_of Try.func44 (by kernel_rfl) (by kernel_rfl)
theorem cf45 : CF 45 := cf_of Try.func45 (by kernel_rfl) (by kernel_rfl)
theorem cf46 : CF 46 := cf_of Try.func46 (by kernel_rfl) (by kernel_rfl)
theorem cf47 : CF 47 := cf_of Try.func47 (by kernel_rfl) (by kernel_rfl)
theorem cf48 : CF 48 := cf_of Try.func48 (by kernel_rfl) (by kernel_rfl)
theorem cf49 : CF 49 := cf_of Try.func49 (by kernel_rfl) (by kernel_rfl)
theorem cf50 : CF 50 := cf_of Try.func50 (by kernel_rfl) (by kernel_rfl)
theorem cf51 : CF 51 := cf_of Try.func51 (by kernel_rfl) (by kernel_rfl)
theorem cf52 : CF 52 := cf_of Try.func52 (by kernel_rfl) (by kernel_rfl)
theorem cf53 : CF 53 := cf_of Try.func53 (by kernel_rfl) (by kernel_rfl)
theorem cf54 : CF 54 := cf_of Try.func54 (by kernel_rfl) (by kernel_rfl)
theorem cf55 : CF 55 := cf_of Try.func55 (by kernel_rfl) (by kernel_rfl)
theorem cf56 : CF 56 := cf_of Try.func56 (by kernel_rfl) (by kernel_rfl)
theorem cf57 : CF 57 := cf_of Try.func57 (by kernel_rfl) (by kernel_rfl)
theorem cf58 : CF 58 := cf_of Try.func58 (by kernel_rfl) (by kernel_rfl)
theorem cf59 : CF 59 := cf_of Try.func59 (by kernel_rfl) (by kernel_rfl)
theorem cf60 : CF 60 := cf_of Try.func60 (by kernel_rfl) (by kernel_rfl)
theorem cf61 : CF 61 := cf_of Try.func61 (by kernel_rfl) (by kernel_rfl)
theorem cf62 : CF 62 := cf_of Try.func62 (by kernel_rfl) (by kernel_rfl)
theorem cf67 : CF 67 := cf_of Try.func67 (by kernel_rfl) (by kernel_rfl)
theorem cf68 : CF 68 := cf_of Try.func68 (by kernel_rfl) (by kernel_rfl)
theorem cf69 : CF 69 := cf_of Try.func69 (by kernel_rfl) (by kernel_rfl)
theorem cf70 : CF 70 := cf_of Try.func70 (by kernel_rfl) (by kernel_rfl)
theorem cf71 : CF 71 := cf_of Try.func71 (by kernel_rfl) (by kernel_rfl)
theorem cf72 : CF 72 := cf_of Try.func72 (by kernel_rfl) (by kernel_rfl)
theorem cf73 : CF 73 := cf_of Try.func73 (by kernel_rfl) (by kernel_rfl)
theorem cf74 : CF 74 := cf_of Try.func74 (by kernel_rfl) (by kernel_rfl)
theorem cf75 : CF 75 := cf_of Try.func75 (by kernel_rfl) (by kernel_rfl)
theorem cf76 : CF 76 := cf_of Try.func76 (by kernel_rfl) (by kernel_rfl)
theorem cf77 : CF 77 := cf_of Try.func77 (by kernel_rfl) (by kernel_rfl)
theorem cf78 : CF 78 := cf_of Try.func78 (by kernel_rfl) (by kernel_rfl)
theorem cf79 : CF 79 := cf_of Try.func79 (by kernel_rfl) (by kernel_rfl)
theorem cf80 : CF 80 := cf_of Try.func80 (by kernel_rfl) (by kernel_rfl)
theorem cf81 : CF 81 := cf_of Try.func81 (by kernel_rfl) (by kernel_rfl)
theorem cf82 : CF 82 := cf_of Try.func82 (by kernel_rfl) (by kernel_rfl)
theorem cf83 : CF 83 := cf_of Try.func83 (by kernel_rfl) (by kernel_rfl)
theorem cf84 : CF 84 := cf_of Try.func84 (by kernel_rfl) (by kernel_rfl)
theorem cf85 : CF 85 := cf_of Try.func85 (by kernel_rfl) (by kernel_rfl)
theorem cf86 : CF 86 := cf_of Try.func86 (by kernel_rfl) (by kernel_rfl)
theorem cf87 : CF 87 := cf_of Try.func87 (by kernel_rfl) (by kernel_rfl)
theorem cf88 : CF 88 := cf_of Try.func88 (by kernel_rfl) (by kernel_rfl)
theorem cf93 : CF 93 := cf_of Try.func93 (by kernel_rfl) (by kernel_rfl)
theorem cf94 : CF 94 := cf_of Try.func94 (by kernel_rfl) (by kernel_rfl)
theorem cf95 : CF 95 := cf_of Try.func95 (by kernel_rfl) (by kernel_rfl)
theorem cf96 : CF 96 := cf_of Try.func96 (by kernel_rfl) (by kernel_rfl)
theorem cf97 : CF 97 := cf_of Try.func97 (by kernel_rfl) (by kernel_rfl)
theorem cf100 : CF 100 := cf_of Try.func100 (by kernel_rfl) (by kernel_rfl)
theorem cf101 : CF 101 := cf_of Try.func101 (by kernel_rfl) (by kernel_rfl)
theorem cf102 : CF 102 := cf_of Try.func102 (by kernel_rfl) (by kernel_rfl)
theorem cf103 : CF 103 := cf_of Try.func103 (by kernel_rfl) (by kernel_rfl)
theorem cf104 : CF 104 := cf_of Try.func104 (by kernel_rfl) (by kernel_rfl)
theorem cf105 : CF 105 := cf_of Try.func105 (by kernel_rfl) (by kernel_rfl)
theorem cf107 : CF 107 := cf_of Try.func107 (by kernel_rfl) (by kernel_rfl)
theorem cf108 : CF 108 := cf_of Try.func108 (by kernel_rfl) (by kernel_rfl)
theorem cf109 : CF 109 := cf_of Try.func109 (by kernel_rfl) (by kernel_rfl)
theorem cf110 : CF 110 := cf_of Try.func110 (by kernel_rfl) (by kernel_rfl)
theorem cf111 : CF 111 := cf_of Try.func111 (by kernel_rfl) (by kernel_rfl)
theorem cf112 : CF 112 := cf_of Try.func112 (by kernel_rfl) (by kernel_rfl)
theorem cf113 : CF 113 := cf_of Try.func113 (by kernel_rfl) (by kernel_rfl)
theorem cf114 : CF 114 := cf_of Try.func114 (by kernel_rfl) (by kernel_rfl)
theorem cf117 : CF 117 := cf_of Try.func117 (by kernel_rfl) (by kernel_rfl)
theorem infType : (Try.prog.info? 90).map (·.size) = some 3 := by kernel_rfl
theorem infIns : (Try.prog.info? 46).map (·.size) = some 8 := by kernel_rfl
theorem infTo : (Try.prog.info? 52).map (·.size) = some 3 := by kernel_rfl
theorem infEnd : (Try.prog.info? 54).map (·.size) = some 9 := by kernel_rfl
theorem infBlock : (Try.prog.info? 77).map (·.size) = some 12 := by kernel_rfl
theorem infFunc : (Try.prog.info? 50).map (·.size) = some 4 := by kernel_rfl
theorem infModule : (Try.prog.info? 39).map (·.size) = some 1 := by kernel_rfl
theorem infFault : (Try.prog.info? 26).map (·.size) = some 2 := by kernel_rfl
theorem infFields : (Try.prog.info? 102).map (·.size) = some 7 := by kernel_rfl
theorem inffuncLook : (Try.prog.info? 84).map (·.size) = some 6 := by kernel_rfl
theorem infblockLook : (Try.prog.info? 113).map (·.size) = some 19 := by kernel_rfl
theorem inf1Int : (Try.prog.info? 3).map (·.size) = some 1 := by kernel_rfl
theorem inf1Int6 : (Try.prog.info? 2).map (·.size) = some 1 := by kernel_rfl
theorem inf1Bool : (Try.prog.info? 4).map (·.size) = some 1 := by kernel_rfl
theorem inf1Ints : (Try.prog.info? 44).map (·.size) = some 1 := by kernel_rfl
theorem inf1Types : (Try.prog.info? 47).map (·.size) = some 1 := by kernel_rfl
theorem inf1Inss : (Try.prog.info? 75).map (·.size) = some 1 := by kernel_rfl
theorem inf1Blocks : (Try.prog.info? 48).map (·.size) = some 1 := by kernel_rfl
theorem inf1Funcs : (Try.prog.info? 37).map (·.size) = some 1 := by kernel_rfl

/-- The result lies in a box. -/
theorem ret_box {fn : Func} {R : Ending → World → Prop} {d : TypeDesc} (i : Nat) {B : Nat} {c : Array Value} {bt : TypeId} (hF : Fr n a L) (hW : Wd w0 w Bs) (hr : fn.results = #[.cell t ty]) (hv : L.lookup t = some (.pointer (some ⟨B, 0, none⟩))) (hb : Bs[i]? = some (B, c, bt))
    (hu : Try.prog.underlying ty = some d) (hd : d.isRow = true) (hi : (Try.prog.info? ty).map (·.size) = some c.size) (hR : R (.returned (.agg c)) w) : bodyPost Try.prog fn R .ret a w := by
  refine bodyPost_ret ?_ hF.defers hR
  have e := hF.sl2 t _ hv
  have e2 := run_loadVar_mid (P := Try.prog) w B 0 ty c.toList d (by have := rangeOf (hW.get i hb) 0 c.size (by simp [Nat.ble_eq]); rw [List.drop_zero, List.take_of_length_le (by simp)] at this; exact this) hu hd (by simpa using hi)
  simp only [Array.toArray_toList] at e2
  simp [results, hr, e, asAddr, e2]
end
end Go.Proofs.Ytmnmnokkojcodab
